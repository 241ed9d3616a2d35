package plan

import (
	"crypto/sha256"
	"fmt"
	"math"
	"math/rand"
	"slices"
	"strings"
	"testing"

	"veneer/api"
	"veneer/manifest"
	"veneer/rootdb"
)

// refs are layers of these sizes; pack is a package of such; install, upgrade and remove are operations.

func refs(mark string, sizes ...int) []api.Ref {
	var l []api.Ref
	for i, size := range sizes {
		l = append(l, api.Ref{Sum: sha256.Sum256([]byte(fmt.Sprint(mark, " ", i))), Size: size})
	}
	return l
}

func pack(owner int, name, version string, sizes ...int) api.Pack {
	return api.Pack{Owner: owner, Man: api.Manifest{Name: name, Version: version, Layers: refs(name+" "+version, sizes...)}}
}

func install(root int, name, version string, sizes ...int) api.Op {
	return api.Op{Kind: api.OpInstall, Root: root, Name: name, Version: version, Layers: refs(name+" "+version, sizes...)}
}

func upgrade(root int, name, version string, sizes ...int) api.Op {
	op := install(root, name, version, sizes...)
	op.Kind = api.OpUpgrade
	return op
}

func remove(root int, name string) api.Op {
	return api.Op{Kind: api.OpRemove, Root: root, Name: name}
}

// kinds are operations of each kind, none of which Check refuses.
func kinds(root int) []api.Op {
	return []api.Op{install(root, "new", "1", 5), upgrade(root, "a", "2", 5), remove(root, "a")}
}

func ops(l ...api.Op) []api.Op { return l }

func stack(l ...api.Pack) []api.Pack { return l }

func stacks(l ...[]api.Pack) [][]api.Pack { return l }

func plan(root int, l ...api.Pack) api.Plan { return api.Plan{Root: root, Packs: l} }

// many are n sizes of layers; ones are n packages of one layer each, of one owner.

func many(n int) []int {
	l := make([]int, n)
	for i := range l {
		l[i] = 5 + i
	}
	return l
}

func ones(owner, n int) []api.Pack {
	var l []api.Pack
	for i := range n {
		l = append(l, pack(owner, fmt.Sprint("p", i), "1", 5))
	}
	return l
}

func long(n int) string { return strings.Repeat("a", n) }

// Numbers of roots, of owners and of kinds that are none.

func wrongRoots() []int {
	return []int{0, 7, 8, -1, -6, 64, 255, 256, 257, 1 << 32, 1<<32 + 1, -1 << 32, math.MaxInt, math.MinInt}
}

func wrongOwners() []int {
	return []int{0, 9, 10, -1, -8, 64, 255, 256, 257, 1 << 32, 1<<32 + 1, -1 << 32, math.MaxInt, math.MinInt}
}

func wrongKinds() []int {
	return []int{0, 4, 5, -1, -3, 255, 256, 257, 1 << 32, 1<<32 + 1, math.MaxInt, math.MinInt}
}

// isPack, arePacks, areStacks and arePlans look at all fields; a list without an element is the same whether it is nil or not.

func isPack(a, b api.Pack) bool {
	return a.Owner == b.Owner && a.Man.Name == b.Man.Name && a.Man.Version == b.Man.Version && slices.Equal(a.Man.Layers, b.Man.Layers)
}

func arePacks(a, b []api.Pack) bool { return slices.EqualFunc(a, b, isPack) }

func areStacks(a, b [][]api.Pack) bool { return slices.EqualFunc(a, b, arePacks) }

func arePlans(a, b []api.Plan) bool {
	return slices.EqualFunc(a, b, func(x, y api.Plan) bool { return x.Root == y.Root && arePacks(x.Packs, y.Packs) })
}

// packed, stacked, planned and named are packages, stacks, plans and operations as short texts.

func packed(l []api.Pack) string {
	var out []string
	for _, p := range l {
		out = append(out, fmt.Sprintf("%d:%s-%s(%d)", p.Owner, p.Man.Name, p.Man.Version, len(p.Man.Layers)))
	}
	return fmt.Sprint(out)
}

func stacked(l [][]api.Pack) string {
	var out []string
	for _, s := range l {
		out = append(out, packed(s))
	}
	return fmt.Sprint(out)
}

func planned(l []api.Plan) string {
	var out []string
	for _, p := range l {
		out = append(out, fmt.Sprint(p.Root, packed(p.Packs)))
	}
	return fmt.Sprint(out)
}

func named(l ...api.Op) string {
	var out []string
	for _, op := range l {
		out = append(out, fmt.Sprintf("%d@%d %q %q(%d)", op.Kind, op.Root, op.Name, op.Version, len(op.Layers)))
	}
	return strings.Join(out, ", ")
}

// The model: all roots' packages in one row, each with its height; what comes of an operation is another row.

type lying struct {
	root, height int
	pack         api.Pack
}

type world []lying

func worldOf(l [][]api.Pack) world {
	var w world
	for i, s := range l {
		for k, p := range s {
			w = append(w, lying{i + 1, k, p})
		}
	}
	return w
}

// on is what a root has, the lowest first.
func (w world) on(root int) []api.Pack {
	var here world
	for _, x := range w {
		if x.root == root {
			here = append(here, x)
		}
	}
	slices.SortFunc(here, func(a, b lying) int { return a.height - b.height })
	var l []api.Pack
	for _, x := range here {
		l = append(l, x.pack)
	}
	return l
}

// all is what the six roots have.
func (w world) all() [][]api.Pack {
	var l [][]api.Pack
	for _, root := range []int{1, 2, 3, 4, 5, 6} {
		l = append(l, w.on(root))
	}
	return l
}

// fault is an error, and whether it speaks against a call.
type fault struct {
	is bool
	e  api.Errno
}

func first(l ...fault) api.Errno {
	for _, x := range l {
		if x.is {
			return x.e
		}
	}
	return 0
}

func isName(s string) bool {
	return len(s) >= 1 && len(s) <= 16 && strings.Trim(s, "abcdefghijklmnopqrstuvwxyz0123456789-.") == ""
}

// mustCheck is what Check must answer, by the words of its chapter and of that of manifests.
func mustCheck(op api.Op) api.Errno {
	isRemove := op.Kind == 3
	l := []fault{
		{!slices.Contains([]int{1, 2, 3}, op.Kind), 13},
		{!slices.Contains([]int{1, 2, 3, 4, 5, 6}, op.Root), 2},
		{isRemove && op.Version != "", 5},
		{isRemove && len(op.Layers) != 0, 5},
		{!isName(op.Name), 2},
		{isRemove, 0},
		{!isName(op.Version), 2},
		{len(op.Layers) == 0, 9},
		{len(op.Layers) > 8, 3},
	}
	for i, x := range op.Layers {
		isTwice := slices.ContainsFunc(op.Layers[:i], func(y api.Ref) bool { return y.Sum == x.Sum })
		l = append(l, fault{x.Size < 0 || x.Size > 1<<31-1, 2}, fault{isTwice, 8})
	}
	return first(l...)
}

// does is what an operation makes of the root that it names, and what it must be answered.
func (w world) does(owner int, op api.Op) (world, api.Errno) {
	var old api.Pack
	isThere, height, top, layers := false, 0, 0, 0
	for _, x := range w {
		if x.root != op.Root {
			continue
		}
		top = max(top, x.height+1)
		layers += len(x.pack.Man.Layers)
		if x.pack.Man.Name == op.Name {
			isThere, height, old = true, x.height, x.pack
		}
	}
	checked, stackFault := mustCheck(op), rootdb.Check(w.on(op.Root))
	if e := first(
		fault{checked != 0, checked},
		fault{stackFault != 0, stackFault},
		fault{!slices.Contains([]int{1, 2, 3, 4, 5, 6, 7, 8}, owner), 2},
		fault{op.Kind == 1 && isThere, 8},
		fault{op.Kind != 1 && !isThere, 9},
		fault{op.Kind != 1 && old.Owner != owner, 16},
		fault{op.Kind == 2 && manifest.Order(op.Version, old.Man.Version) != 1, 14},
		fault{layers-len(old.Man.Layers)+len(op.Layers) > 16, 3},
	); e != 0 {
		return w, e
	}
	var next world
	for _, x := range w {
		if x.root != op.Root || x.pack.Man.Name != op.Name {
			next = append(next, x)
		}
	}
	if !isThere {
		height = top
	}
	if op.Kind != 3 {
		next = append(next, lying{op.Root, height, api.Pack{Owner: owner, Man: api.Manifest{Name: op.Name, Version: op.Version, Layers: op.Layers}}})
	}
	return next, 0
}

func mustDo(l []api.Pack, owner int, op api.Op) ([]api.Pack, api.Errno) {
	var w world
	for i, p := range l {
		w = append(w, lying{op.Root, i, p})
	}
	next, e := w.does(owner, op)
	if e != 0 {
		return nil, e
	}
	return next.on(op.Root), 0
}

func mustAll(l [][]api.Pack, owner int, given []api.Op) ([]api.Plan, int, api.Errno) {
	if e := first(fault{len(given) == 0, 9}, fault{len(given) > 8, 3}); e != 0 {
		return nil, 0, e
	}
	w := worldOf(l)
	named := map[int]bool{}
	for i, op := range given {
		next, e := w.does(owner, op)
		if e != 0 {
			return nil, i, e
		}
		w, named[op.Root] = next, true
	}
	var plans []api.Plan
	for _, root := range []int{1, 2, 3, 4, 5, 6} {
		if named[root] {
			plans = append(plans, plan(root, w.on(root)...))
		}
	}
	return plans, 0, 0
}

func mustPut(l [][]api.Pack, plans []api.Plan) [][]api.Pack {
	var out [][]api.Pack
	for _, root := range []int{1, 2, 3, 4, 5, 6} {
		var s []api.Pack
		if len(l) >= root {
			s = l[root-1]
		}
		for _, p := range plans {
			if p.Root == root {
				s = p.Packs
			}
		}
		out = append(out, s)
	}
	return out
}

// isChecked, isDone, isAll and isPut fail where a call answers anything else than the model.

func isChecked(t *testing.T, op api.Op) api.Errno {
	t.Helper()
	e := Check(op)
	if want := mustCheck(op); e != want {
		t.Errorf("Check(%s) = %d, want %d", named(op), int(e), int(want))
	}
	return e
}

func isDone(t *testing.T, l []api.Pack, owner int, op api.Op) ([]api.Pack, api.Errno) {
	t.Helper()
	next, e := Do(l, owner, op)
	if want, wantE := mustDo(l, owner, op); e != wantE || !arePacks(next, want) {
		t.Errorf("Do(%s, %d, %s) = %s, %d, want %s, %d", packed(l), owner, named(op), packed(next), int(e), packed(want), int(wantE))
	}
	return next, e
}

func isAll(t *testing.T, l [][]api.Pack, owner int, given ...api.Op) ([]api.Plan, int, api.Errno) {
	t.Helper()
	plans, at, e := All(l, owner, given)
	if want, wantAt, wantE := mustAll(l, owner, given); e != wantE || at != wantAt || !arePlans(plans, want) {
		t.Errorf("All(%s, %d, %s) = %s, %d, %d, want %s, %d, %d", stacked(l), owner, named(given...), planned(plans), at, int(e), planned(want), wantAt, int(wantE))
	}
	return plans, at, e
}

func isPut(t *testing.T, l [][]api.Pack, plans ...api.Plan) [][]api.Pack {
	t.Helper()
	out := Put(l, plans)
	if want := mustPut(l, plans); !areStacks(out, want) {
		t.Errorf("Put(%s, %s) = %s, want %s", stacked(l), planned(plans), stacked(out), stacked(want))
	}
	return out
}

// comesTo and isRefused are of what is known by hand.

func comesTo(t *testing.T, l []api.Pack, owner int, op api.Op, want ...api.Pack) {
	t.Helper()
	if next, e := isDone(t, l, owner, op); e != 0 || !arePacks(next, want) {
		t.Errorf("Do(%s, %d, %s) = %s, %d, want %s", packed(l), owner, named(op), packed(next), int(e), packed(want))
	}
}

func isRefused(t *testing.T, want api.Errno, l []api.Pack, owner int, op api.Op) {
	t.Helper()
	if next, e := isDone(t, l, owner, op); e != want || len(next) != 0 {
		t.Errorf("Do(%s, %d, %s) = %s, %d, want %d", packed(l), owner, named(op), packed(next), int(e), int(want))
	}
}

func allComesTo(t *testing.T, l [][]api.Pack, owner int, given []api.Op, want ...api.Plan) {
	t.Helper()
	if plans, at, e := isAll(t, l, owner, given...); e != 0 || at != 0 || !arePlans(plans, want) {
		t.Errorf("All(%s, %d, %s) = %s, %d, %d, want %s", stacked(l), owner, named(given...), planned(plans), at, int(e), planned(want))
	}
}

func allIsRefused(t *testing.T, wantAt int, want api.Errno, l [][]api.Pack, owner int, given ...api.Op) {
	t.Helper()
	if plans, at, e := isAll(t, l, owner, given...); e != want || at != wantAt || len(plans) != 0 {
		t.Errorf("All(%s, %d, %s) = %s, %d, %d, want %d, %d", stacked(l), owner, named(given...), planned(plans), at, int(e), wantAt, int(want))
	}
}

func TestTheExample(t *testing.T) {
	l, at, e := All(nil, 3, ops(install(1, "a", "1", 5), upgrade(1, "a", "2", 6)))
	if e != 0 || at != 0 || !arePlans(l, []api.Plan{plan(1, pack(3, "a", "2", 6))}) {
		t.Errorf("%s, %d, %d", planned(l), at, int(e))
	}
	l, at, e = All(stacks(stack(pack(3, "a", "1", 5))), 3, ops(upgrade(1, "a", "1", 6)))
	if e != 14 || at != 0 || len(l) != 0 {
		t.Errorf("%s, %d, %d", planned(l), at, int(e))
	}
}

// P18.1: Check

func TestCheckByHand(t *testing.T) {
	noughts := []api.Ref{{}}
	for _, x := range []struct {
		op   api.Op
		want api.Errno
	}{
		{api.Op{}, 13}, {api.Op{Kind: 4, Root: 1, Name: "a", Version: "1", Layers: noughts}, 13}, {api.Op{Kind: -1, Root: 9, Name: "A"}, 13},
		{install(1, "a", "1", 5), 0}, {install(6, "a", "1", 5), 0}, {install(0, "a", "1", 5), 2}, {install(7, "a", "1", 5), 2}, {install(-1, "a", "1", 5), 2},
		{upgrade(1, "a", "1", 5), 0}, {upgrade(6, "a", "1", 5), 0}, {upgrade(0, "a", "1", 5), 2}, {upgrade(7, "a", "1", 5), 2}, {upgrade(-1, "a", "1", 5), 2},
		{remove(1, "a"), 0}, {remove(6, "a"), 0}, {remove(0, "a"), 2}, {remove(7, "a"), 2}, {remove(-1, "a"), 2},
		{install(1, "", "1", 5), 2}, {install(1, "a", "", 5), 2}, {install(1, "A", "1", 5), 2}, {install(1, "a", "V", 5), 2}, {install(1, long(16), long(16), 5), 0},
		{install(1, long(17), "1", 5), 2}, {install(1, "a", long(17), 5), 2}, {upgrade(1, "", "1", 5), 2}, {upgrade(1, "a", "", 5), 2}, {upgrade(1, "a", long(17), 5), 2},
		{install(1, "a", "1"), 9}, {upgrade(1, "a", "1"), 9}, {install(1, "a", "1", many(8)...), 0}, {upgrade(1, "a", "1", many(8)...), 0},
		{install(1, "a", "1", many(9)...), 3}, {upgrade(1, "a", "1", many(9)...), 3}, {install(1, "a", "1", 0, 1<<31-1), 0}, {install(1, "a", "1", 0, 1<<31), 2},
		{upgrade(1, "a", "1", 5, -1), 2}, {upgrade(1, "a", "1", math.MinInt), 2}, {upgrade(1, "a", "1", math.MaxInt), 2},
		{api.Op{Kind: 1, Root: 1, Name: "a", Version: "1", Layers: make([]api.Ref, 2)}, 8}, {api.Op{Kind: 2, Root: 1, Name: "a", Version: "1", Layers: make([]api.Ref, 2)}, 8},
		{api.Op{Kind: 1, Root: 1, Name: "a", Version: "1", Layers: noughts}, 0}, {api.Op{Kind: 2, Root: 1, Name: "a", Version: "1", Layers: noughts}, 0},
		{remove(1, ""), 2}, {remove(1, "A"), 2}, {remove(1, "a b"), 2}, {remove(1, "a\x00"), 2}, {remove(1, long(16)), 0}, {remove(1, long(17)), 2}, {remove(1, "-."), 0},
		{api.Op{Kind: 3, Root: 1, Name: "a", Version: "1"}, 5}, {api.Op{Kind: 3, Root: 1, Name: "a", Version: "V"}, 5}, {api.Op{Kind: 3, Root: 1, Name: "a", Version: "0"}, 5},
		{api.Op{Kind: 3, Root: 1, Name: "a", Layers: noughts}, 5}, {api.Op{Kind: 3, Root: 1, Name: "a", Version: "0", Layers: noughts}, 5},
		{api.Op{Kind: 3, Root: 1, Name: "a", Layers: make([]api.Ref, 9)}, 5}, {api.Op{Kind: 3, Root: 1, Name: "a", Layers: []api.Ref{}}, 0},
		{api.Op{Kind: 1, Root: 1, Name: "a", Version: "1", Layers: []api.Ref{}}, 9},
	} {
		if e := isChecked(t, x.op); e != x.want {
			t.Errorf("Check(%s) = %d, want %d", named(x.op), int(e), int(x.want))
		}
	}
}

// Each comes ahead of all that stand behind it.
func TestCheckTellsTheFirst(t *testing.T) {
	wrong := []api.Ref{{Size: -1}, {}}
	for _, x := range []struct {
		op   api.Op
		want api.Errno
	}{
		{api.Op{Kind: 0, Root: 0, Name: "", Version: "", Layers: wrong}, 13}, {api.Op{Kind: 4, Root: 7, Name: "", Version: "1", Layers: wrong}, 13},
		{api.Op{Kind: 1, Root: 0, Name: "", Version: "", Layers: nil}, 2}, {api.Op{Kind: 1, Root: 7, Name: "a", Version: "1", Layers: nil}, 2},
		{api.Op{Kind: 2, Root: 7, Name: "a", Version: "1", Layers: make([]api.Ref, 9)}, 2}, {api.Op{Kind: 2, Root: 7, Name: "a", Version: "1", Layers: make([]api.Ref, 2)}, 2},
		{api.Op{Kind: 3, Root: 7, Name: "a", Version: "1"}, 2}, {api.Op{Kind: 3, Root: 0, Name: "a", Layers: wrong}, 2},
		{api.Op{Kind: 3, Root: 1, Name: "", Version: "1"}, 5}, {api.Op{Kind: 3, Root: 1, Name: "A", Layers: wrong}, 5}, {api.Op{Kind: 3, Root: 1, Name: "", Version: "", Layers: wrong}, 5},
		{api.Op{Kind: 1, Root: 1, Name: "", Version: "1"}, 2}, {api.Op{Kind: 2, Root: 1, Name: "a", Version: "", Layers: make([]api.Ref, 9)}, 2},
		{api.Op{Kind: 1, Root: 1, Name: "a", Version: "1", Layers: make([]api.Ref, 9)}, 3}, {api.Op{Kind: 2, Root: 1, Name: "a", Version: "1", Layers: wrong}, 2},
		{api.Op{Kind: 2, Root: 1, Name: "a", Version: "1", Layers: []api.Ref{{}, {}, {Size: -1}}}, 8},
	} {
		if e := isChecked(t, x.op); e != x.want {
			t.Errorf("Check(%s) = %d, want %d", named(x.op), int(e), int(x.want))
		}
	}
}

func TestCheckOfKindsAndRoots(t *testing.T) {
	for _, kind := range append(wrongKinds(), 1, 2, 3) {
		for _, root := range append(wrongRoots(), 1, 2, 3, 4, 5, 6) {
			for _, op := range kinds(root) {
				op.Kind = kind
				isChecked(t, op)
			}
		}
	}
}

// layerLists are lists of layers that may be and that may not.
func layerLists() [][]api.Ref {
	twice := refs("x", many(4)...)
	twice[3].Sum = twice[1].Sum
	last := refs("x", many(8)...)
	last[7].Sum = last[0].Sum
	return [][]api.Ref{
		nil, {}, {{}}, refs("x", 5), refs("x", 0, 1<<31-1), refs("x", many(8)...), refs("x", many(9)...), refs("x", 1<<31), refs("x", 5, -1), refs("x", math.MinInt),
		make([]api.Ref, 2), make([]api.Ref, 9), twice, last, {{}, {}, {Size: -1}}, {{Size: -1}, {}, {}},
	}
}

func TestCheckOfAllFields(t *testing.T) {
	texts := []string{"", "a", "0", "1.2", "-", ".", "a-b.9", long(16), long(17), "A", "a b", "a/b", "a_", "\x00", "\xff", "z{", "`", "ä", long(15) + "Z"}
	for _, kind := range []int{-1, 0, 1, 2, 3, 4} {
		for _, root := range []int{0, 1, 6, 7} {
			for _, name := range texts {
				for _, version := range texts {
					for _, l := range layerLists() {
						isChecked(t, api.Op{Kind: kind, Root: root, Name: name, Version: version, Layers: l})
					}
				}
			}
		}
	}
}

// Each byte in a name and in a version, at each place.
func TestCheckOfBytes(t *testing.T) {
	for b := range 256 {
		for at := range 3 {
			s := []byte("abc")
			s[at] = byte(b)
			for _, op := range []api.Op{remove(1, string(s)), install(1, string(s), "1", 5), upgrade(1, string(s), "1", 5), install(1, "a", string(s), 5), upgrade(1, "a", string(s), 5)} {
				isChecked(t, op)
			}
		}
	}
}

// P18.2: Do

// three are packages of two owners; the names stand in no order.
func three() []api.Pack {
	return stack(pack(2, "c", "1", 5), pack(1, "a", "1.9", 6, 7), pack(2, "b", "3", 8))
}

func TestDoByHand(t *testing.T) {
	c, a, b := three()[0], three()[1], three()[2]
	comesTo(t, nil, 1, install(1, "a", "1", 5), pack(1, "a", "1", 5))
	comesTo(t, stack(), 8, install(6, "a", "1", 5), pack(8, "a", "1", 5))
	comesTo(t, three(), 1, install(1, "0", "1", 5), c, a, b, pack(1, "0", "1", 5))
	comesTo(t, three(), 5, install(1, "z", "1", many(8)...), c, a, b, pack(5, "z", "1", many(8)...))
	comesTo(t, three(), 2, upgrade(1, "c", "2", 9), pack(2, "c", "2", 9), a, b)
	comesTo(t, three(), 1, upgrade(1, "a", "1.10", many(8)...), c, pack(1, "a", "1.10", many(8)...), b)
	comesTo(t, three(), 2, upgrade(1, "b", "3.0", 1), c, a, pack(2, "b", "3.0", 1))
	comesTo(t, three(), 2, remove(1, "c"), a, b)
	comesTo(t, three(), 1, remove(1, "a"), c, b)
	comesTo(t, three(), 2, remove(1, "b"), c, a)
	comesTo(t, stack(a), 1, remove(1, "a"))
	for _, name := range []string{"a", "b", "c"} {
		for owner := 1; owner <= 8; owner++ {
			isRefused(t, 8, three(), owner, install(1, name, "9", 5)) // whoever laid it
		}
	}
	for _, op := range []api.Op{upgrade(1, "d", "9", 5), remove(1, "d"), upgrade(1, "aa", "9", 5), remove(1, "aa"), remove(1, "-")} {
		isRefused(t, 9, three(), 1, op)
		isRefused(t, 9, nil, 1, op)
	}
	for _, owner := range []int{2, 3, 8} {
		isRefused(t, 16, three(), owner, upgrade(1, "a", "9", 5))
		isRefused(t, 16, three(), owner, remove(1, "a"))
	}
}

func TestDoOfVersions(t *testing.T) {
	for _, x := range []struct {
		there, next string
		want        api.Errno
	}{
		{"1", "1", 14}, {"1", "2", 0}, {"2", "1", 14}, {"1.9", "1.10", 0}, {"1.10", "1.9", 14}, {"1", "1.0", 0}, {"1.0", "1", 14},
		{"01", "1", 0}, {"1", "01", 14}, {"01", "01", 14}, {"1.09", "1.9", 0}, {"1.9", "1.09", 14}, {"001", "01", 0}, {"0", "00", 0}, {"00", "0", 14},
		{"1.2", "1.a", 0}, {"1.a", "1.2", 14}, {"a", "b", 0}, {"b", "a", 14}, {"a", "a", 14}, {"9", "a", 0}, {"a", "9", 14}, {"-", "-", 14},
		{"9", "10", 0}, {"10", "9", 14}, {"1..1", "1.1", 14}, {"1.1", "1..1", 0}, {"9999999999999999", "10000000000000000", 2}, {"9999999999999998", "9999999999999999", 0},
	} {
		l := stack(pack(1, "x", "5", 5), pack(3, "a", x.there, 5), pack(1, "y", "0", 5))
		if x.want == 0 {
			comesTo(t, l, 3, upgrade(1, "a", x.next, 6), l[0], pack(3, "a", x.next, 6), l[2])
		} else {
			isRefused(t, x.want, l, 3, upgrade(1, "a", x.next, 6))
		}
		if x.want != 2 {
			comesTo(t, l, 3, install(1, "n", x.next, 5), l[0], l[1], l[2], pack(3, "n", x.next, 5)) // of others the version does not matter
		}
		comesTo(t, l, 3, remove(1, "a"), l[0], l[2])
	}
}

// The same operation, whatever root it names: Do has one stack.
func TestDoOfRoots(t *testing.T) {
	for root := 1; root <= 6; root++ {
		comesTo(t, three(), 1, install(root, "new", "1", 5), append(three(), pack(1, "new", "1", 5))...)
		comesTo(t, three(), 1, upgrade(root, "a", "2", 5), three()[0], pack(1, "a", "2", 5), three()[2])
		comesTo(t, three(), 1, remove(root, "a"), three()[0], three()[2])
	}
	for _, root := range wrongRoots() {
		for _, op := range kinds(root) {
			isRefused(t, 2, three(), 1, op)
		}
	}
}

func TestDoOfKinds(t *testing.T) {
	for _, kind := range wrongKinds() {
		for _, op := range kinds(1) {
			op.Kind = kind
			isRefused(t, 13, three(), 1, op)
		}
	}
}

func TestDoOfOwners(t *testing.T) {
	for owner := 1; owner <= 8; owner++ {
		l := stack(pack(owner, "a", "1", 5), pack(owner%8+1, "b", "1", 6))
		comesTo(t, l, owner, install(1, "new", "1", 5), l[0], l[1], pack(owner, "new", "1", 5))
		comesTo(t, l, owner, upgrade(1, "a", "2", 7), pack(owner, "a", "2", 7), l[1])
		comesTo(t, l, owner, remove(1, "a"), l[1])
		isRefused(t, 16, l, owner, upgrade(1, "b", "2", 7))
		isRefused(t, 16, l, owner, remove(1, "b"))
		isRefused(t, 8, l, owner, install(1, "b", "2", 7))
	}
	for _, owner := range wrongOwners() {
		for _, op := range append(kinds(1), install(1, "a", "9", 5), upgrade(1, "none", "9", 5), remove(1, "none")) {
			isRefused(t, 2, three(), owner, op)
			isRefused(t, 2, nil, owner, op)
		}
	}
}

// What stands in a stack, of whoever it is, is not looked at beside its name.
func TestDoOfTheSameLayers(t *testing.T) {
	l := stack(pack(1, "a", "1", 5, 6))
	op := api.Op{Kind: 1, Root: 1, Name: "b", Version: "1", Layers: l[0].Man.Layers}
	comesTo(t, l, 2, op, l[0], api.Pack{Owner: 2, Man: api.Manifest{Name: "b", Version: "1", Layers: l[0].Man.Layers}})
	op = api.Op{Kind: 2, Root: 1, Name: "a", Version: "2", Layers: l[0].Man.Layers}
	comesTo(t, l, 1, op, api.Pack{Owner: 1, Man: api.Manifest{Name: "a", Version: "2", Layers: l[0].Man.Layers}})
}

func TestDoOfManyLayers(t *testing.T) {
	eight, seven := pack(1, "a", "1", many(8)...), pack(2, "b", "1", many(7)...)
	comesTo(t, stack(eight, seven), 1, install(1, "c", "1", 5), eight, seven, pack(1, "c", "1", 5))
	isRefused(t, 3, stack(eight, seven), 1, install(1, "c", "1", 5, 6))
	isRefused(t, 3, stack(eight, seven), 1, install(1, "c", "1", many(8)...))
	isRefused(t, 3, ones(1, 16), 1, install(1, "c", "1", 5))
	comesTo(t, ones(1, 15), 1, install(1, "c", "1", 5), append(ones(1, 15), pack(1, "c", "1", 5))...)
	comesTo(t, stack(eight, seven), 2, upgrade(1, "b", "2", many(8)...), eight, pack(2, "b", "2", many(8)...))
	comesTo(t, stack(seven, eight), 2, upgrade(1, "b", "2", many(8)...), pack(2, "b", "2", many(8)...), eight)
	three := stack(eight, pack(2, "b", "1", many(7)...), pack(2, "c", "1", 5))
	isRefused(t, 3, three, 2, upgrade(1, "b", "2", many(8)...))
	isRefused(t, 3, three, 2, upgrade(1, "c", "2", 5, 6))
	comesTo(t, three, 2, upgrade(1, "c", "2", 6), three[0], three[1], pack(2, "c", "2", 6))
	comesTo(t, three, 2, upgrade(1, "b", "2", 6), three[0], pack(2, "b", "2", 6), three[2])
	comesTo(t, ones(3, 16), 3, upgrade(1, "p7", "2", 6), append(append(ones(3, 7), pack(3, "p7", "2", 6)), ones(3, 16)[8:]...)...)
	comesTo(t, ones(3, 16), 3, remove(1, "p15"), ones(3, 15)...)
	comesTo(t, ones(3, 16), 3, remove(1, "p0"), ones(3, 16)[1:]...)
	for had := 1; had <= 16; had++ {
		for more := 1; more <= 8; more++ {
			isDone(t, ones(1, had), 1, install(1, "new", "1", many(more)...))
			isDone(t, ones(1, had), 1, upgrade(1, "p0", "2", many(more)...))
			isDone(t, ones(1, had), 1, upgrade(1, fmt.Sprint("p", had-1), "2", many(more)...))
		}
	}
}

// wrongStacks are stacks that may not be, each with its error.
func wrongStacks() map[string]struct {
	l []api.Pack
	e api.Errno
} {
	type x = struct {
		l []api.Pack
		e api.Errno
	}
	return map[string]x{
		"no owner":          {stack(pack(1, "a", "1", 5), pack(0, "b", "1", 5)), 2},
		"too great owner":   {stack(pack(9, "a", "1", 5)), 2},
		"owner below 0":     {stack(pack(1, "a", "1", 5), pack(-1, "b", "1", 5)), 2},
		"no name":           {stack(pack(1, "a", "1", 5), pack(1, "", "1", 5)), 2},
		"no version":        {stack(pack(1, "a", "", 5)), 2},
		"no layers":         {stack(pack(1, "a", "1"), pack(0, "b", "1", 5)), 9},
		"too many layers":   {stack(pack(1, "a", "1", 5), pack(1, "b", "1", many(9)...)), 3},
		"a size below 0":    {stack(pack(1, "a", "1", 5), pack(1, "b", "1", -1)), 2},
		"a layer twice":     {stack(pack(1, "a", "1", 5), api.Pack{Owner: 1, Man: api.Manifest{Name: "b", Version: "1", Layers: make([]api.Ref, 2)}}), 8},
		"a name twice":      {stack(pack(1, "a", "1", 5), pack(2, "a", "2", 5)), 8},
		"17 layers":         {ones(1, 17), 3},
		"layers of three":   {stack(pack(1, "a", "1", many(8)...), pack(1, "b", "1", many(8)...), pack(1, "c", "1", 5)), 3},
		"a plain package":   {[]api.Pack{{}}, 2},
		"a name, a package": {stack(pack(1, "a", "1", 5), api.Pack{}), 2},
	}
}

func TestDoOfWrongStacks(t *testing.T) {
	for name, x := range wrongStacks() {
		for _, op := range append(kinds(3), upgrade(3, "p16", "2", 5), remove(3, "p16"), remove(3, "c"), remove(3, "b"), upgrade(3, "b", "2", 5), install(3, "b", "1", 5), install(3, "a", "1", 5)) {
			for _, owner := range []int{1, 2, 9, 0, -1} {
				if next, e := isDone(t, x.l, owner, op); e != x.e || len(next) != 0 {
					t.Errorf("%s: Do(%d, %s) = %s, %d, want %d", name, owner, named(op), packed(next), int(e), int(x.e))
				}
			}
			op.Kind = 0
			isRefused(t, 13, x.l, 1, op)
		}
	}
}

// Each comes ahead of all that stand behind it.
func TestDoTellsTheFirst(t *testing.T) {
	full := stack(pack(1, "a", "5", many(8)...), pack(1, "b", "5", many(8)...))
	isRefused(t, 13, ones(1, 17), 0, api.Op{Kind: 4, Root: 7})
	isRefused(t, 2, ones(1, 17), 0, remove(7, "none"))
	isRefused(t, 5, ones(1, 17), 0, api.Op{Kind: 3, Root: 1, Name: "none", Version: "1"})
	isRefused(t, 9, ones(1, 17), 0, install(1, "p0", "1"))
	isRefused(t, 3, ones(1, 17), 0, install(1, "p0", "1", 5))
	isRefused(t, 3, ones(1, 17), 0, remove(1, "none"))
	isRefused(t, 2, full, 9, install(1, "a", "6", 5))
	isRefused(t, 2, full, 0, remove(1, "none"))
	isRefused(t, 2, full, 0, upgrade(1, "a", "4", 5))
	isRefused(t, 8, full, 2, install(1, "a", "4", 5))
	isRefused(t, 3, full, 2, install(1, "c", "4", 5))
	isRefused(t, 9, full, 2, upgrade(1, "c", "4", many(8)...))
	isRefused(t, 16, full, 2, upgrade(1, "a", "4", 5))
	more := stack(pack(1, "a", "5", many(8)...), pack(1, "b", "5", many(7)...), pack(1, "c", "5", 5))
	isRefused(t, 16, more, 2, upgrade(1, "b", "6", many(8)...))
	isRefused(t, 16, more, 2, upgrade(1, "b", "5", many(8)...))
	isRefused(t, 14, more, 1, upgrade(1, "b", "5", many(8)...))
	isRefused(t, 14, more, 1, upgrade(1, "b", "4", many(8)...))
	isRefused(t, 3, more, 1, upgrade(1, "b", "6", many(8)...))
}

// smallStacks are all stacks of up to three of some packages, those that may not be too.
func smallStacks() [][]api.Pack {
	some := stack(pack(1, "a", "1", 5), pack(1, "a", "2", 6), pack(2, "a", "1", 7), pack(1, "b", "1", many(8)...), pack(2, "b", "1.0", 8, 9), pack(1, "c", "01", many(7)...))
	out := stacks(nil)
	for last := out; len(last[0]) < 3; {
		var longer [][]api.Pack
		for _, l := range last {
			for _, p := range some {
				longer = append(longer, append(slices.Clone(l), p))
			}
		}
		out, last = append(out, longer...), longer
	}
	return out
}

func smallOps(root int) []api.Op {
	var l []api.Op
	for _, name := range []string{"a", "b", "c", "d", ""} {
		l = append(l, remove(root, name))
		for _, version := range []string{"0", "1", "01", "1.0", "2", "A"} {
			l = append(l, install(root, name, version, 5), upgrade(root, name, version, 6, 7), install(root, name, version, many(8)...), upgrade(root, name, version, many(8)...))
		}
	}
	return l
}

func TestDoOfAllSmallStacks(t *testing.T) {
	count := map[api.Errno]int{}
	for _, l := range smallStacks() {
		for _, op := range smallOps(2) {
			for _, owner := range []int{0, 1, 2} {
				_, e := isDone(t, l, owner, op)
				count[e]++
			}
		}
	}
	for _, e := range []api.Errno{0, 2, 3, 8, 9, 14, 16} {
		if count[e] == 0 {
			t.Errorf("no operation was answered %d", int(e))
		}
	}
}

// P18.3: All

func TestAllByHand(t *testing.T) {
	a, b := pack(1, "a", "1", 5), pack(1, "b", "1", 5)
	allComesTo(t, nil, 1, ops(install(1, "a", "1", 5)), plan(1, a))
	allComesTo(t, nil, 1, ops(install(6, "a", "1", 5)), plan(6, a))
	allComesTo(t, nil, 1, ops(install(1, "a", "1", 5), install(1, "b", "1", 5)), plan(1, a, b))
	allComesTo(t, nil, 1, ops(install(1, "b", "1", 5), install(1, "a", "1", 5)), plan(1, b, a))
	allComesTo(t, nil, 1, ops(install(2, "a", "1", 5), install(1, "a", "1", 5)), plan(1, a), plan(2, a))
	allComesTo(t, nil, 1, ops(install(2, "a", "1", 5), install(1, "a", "1", 5), install(2, "b", "1", 5)), plan(1, a), plan(2, a, b))
	allComesTo(t, nil, 1, ops(install(6, "a", "1", 5), install(4, "a", "1", 5), install(5, "b", "1", 5), install(4, "b", "1", 5)), plan(4, a, b), plan(5, b), plan(6, a))
	allComesTo(t, nil, 1, ops(install(3, "a", "1", 5), remove(3, "a")), plan(3)) // a root that is named has a plan, even where nothing changes
	allComesTo(t, nil, 1, ops(install(3, "a", "1", 5), remove(3, "a"), install(3, "a", "1", 5)), plan(3, a))
	allComesTo(t, stacks(stack(a), stack(b)), 1, ops(remove(2, "b")), plan(2))
	allComesTo(t, stacks(stack(a), stack(b)), 1, ops(install(3, "b", "1", 5)), plan(3, b))
	allComesTo(t, stacks(stack(a), stack(b)), 1, ops(install(2, "a", "1", 5), remove(1, "a")), plan(1), plan(2, b, a))
	allComesTo(t, stacks(nil, nil, nil, nil, nil, stack(a), stack(b)), 1, ops(upgrade(6, "a", "2", 5)), plan(6, pack(1, "a", "2", 5)))
}

func TestAllOfRefused(t *testing.T) {
	a := pack(1, "a", "1", 5)
	good := install(2, "x", "1", 5)
	allIsRefused(t, 0, 9, nil, 1)
	allIsRefused(t, 0, 8, stacks(stack(a)), 1, install(1, "a", "1", 5))
	allIsRefused(t, 1, 8, stacks(stack(a)), 1, good, install(1, "a", "1", 5))
	allIsRefused(t, 1, 8, nil, 1, good, good)
	allIsRefused(t, 2, 9, stacks(stack(a)), 1, good, remove(1, "a"), remove(1, "a"))
	allIsRefused(t, 2, 9, stacks(stack(a)), 1, good, remove(1, "a"), upgrade(1, "a", "2", 5), api.Op{}) // the first, not the last
	allIsRefused(t, 1, 16, stacks(stack(a)), 2, good, remove(1, "a"))
	allIsRefused(t, 1, 14, nil, 1, good, upgrade(2, "x", "1", 5))
	allIsRefused(t, 2, 13, nil, 1, good, remove(2, "x"), api.Op{})
	allIsRefused(t, 1, 2, nil, 1, good, install(0, "a", "1", 5))
	allIsRefused(t, 1, 2, nil, 1, good, install(7, "a", "1", 5))
	allIsRefused(t, 1, 5, nil, 1, good, api.Op{Kind: 3, Root: 2, Name: "x", Version: "1"})
	allIsRefused(t, 0, 9, nil, 1, remove(5, "a"))
	allIsRefused(t, 0, 9, nil, 1, upgrade(6, "a", "1", 5))
	allIsRefused(t, 0, 2, stacks(stack(a)), 9, good)
	allIsRefused(t, 0, 2, stacks(stack(a)), 0, good)
	allIsRefused(t, 2, 3, nil, 1, install(1, "a", "1", many(8)...), install(1, "b", "1", many(8)...), install(1, "c", "1", 5))
	for i := range 8 {
		l := ops(install(1, "0", "1", 5), install(1, "1", "1", 5), install(2, "2", "1", 5), install(1, "3", "1", 5), install(6, "4", "1", 5), install(1, "5", "1", 5), install(2, "6", "1", 5), install(1, "7", "1", 5))
		l[i] = remove(3, "none")
		allIsRefused(t, i, 9, nil, 1, l...)
	}
}

func TestAllOfManyOps(t *testing.T) {
	var l []api.Op
	for n := range 30 {
		_, at, e := isAll(t, nil, 1, l...)
		want := api.Errno(0)
		if n == 0 {
			want = 9
		} else if n > 8 {
			want = 3
		}
		if at != 0 || e != want {
			t.Errorf("All of %d operations = %d, %d, want %d", n, at, int(e), int(want))
		}
		l = append(l, install(n%6+1, fmt.Sprint("p", n), "1", 5))
	}
	for _, n := range []int{9, 10, 255, 256, 257, 264} {
		for _, owner := range []int{0, 1, 9} {
			allIsRefused(t, 0, 3, stacks(ones(1, 17)), owner, make([]api.Op, n)...) // ahead of what is wrong with each of them
		}
	}
	for _, owner := range wrongOwners() {
		allIsRefused(t, 0, 9, stacks(ones(1, 17)), owner)
		allIsRefused(t, 0, 2, nil, owner, install(1, "a", "1", 5), api.Op{})
	}
	for _, kind := range wrongKinds() {
		allIsRefused(t, 1, 13, stacks(three()), 1, install(1, "d", "1", 5), api.Op{Kind: kind, Root: -1})
	}
}

// A stack that may not be speaks against what names its root alone.
func TestAllOfWrongStacks(t *testing.T) {
	for _, x := range wrongStacks() {
		for root := 1; root <= 6; root++ {
			l := stacks(nil, nil, nil, nil, nil, nil, nil)
			l[root-1] = x.l
			other := root%6 + 1
			allIsRefused(t, 0, x.e, l, 1, install(root, "new", "1", 5))
			allIsRefused(t, 1, x.e, l, 1, install(other, "new", "1", 5), install(root, "new", "1", 5))
			allIsRefused(t, 1, x.e, l, 1, install(other, "new", "1", 5), remove(root, "none"))
			allComesTo(t, l, 1, ops(install(other, "new", "1", 5)), plan(other, pack(1, "new", "1", 5)))
		}
		allComesTo(t, stacks(nil, nil, nil, nil, nil, nil, x.l), 1, ops(install(6, "new", "1", 5)), plan(6, pack(1, "new", "1", 5)))
	}
}

func TestAllOfWrongRoots(t *testing.T) {
	l := stacks(three(), three(), three(), three(), three(), three(), three(), three())
	for _, root := range wrongRoots() {
		for _, op := range kinds(root) {
			allIsRefused(t, 0, 2, l, 1, op)
			allIsRefused(t, 0, 2, nil, 1, op)
			allIsRefused(t, 1, 2, l, 1, install(1, "x", "1", 5), op, op)
		}
	}
}

// As many stacks as there may be, fewer, and more: those that are not there are empty.
func TestAllOfFewStacks(t *testing.T) {
	for n := range 10 {
		var l [][]api.Pack
		for i := range n {
			l = append(l, stack(pack(1, "a", fmt.Sprint(i+1), 5)))
		}
		for root := 1; root <= 6; root++ {
			if root <= n {
				allComesTo(t, l, 1, ops(install(root, "b", "1", 5)), plan(root, pack(1, "a", fmt.Sprint(root), 5), pack(1, "b", "1", 5)))
				allComesTo(t, l, 1, ops(remove(root, "a")), plan(root))
			} else {
				allComesTo(t, l, 1, ops(install(root, "b", "1", 5)), plan(root, pack(1, "b", "1", 5)))
				allIsRefused(t, 0, 9, l, 1, remove(root, "a"))
			}
		}
	}
}

// Each row of four roots: the plans rise, whatever the order of the operations.
func TestAllRises(t *testing.T) {
	for row := range 6 * 6 * 6 * 6 {
		var l []api.Op
		for i, n := 0, row; i < 4; i, n = i+1, n/6 {
			l = append(l, install(n%6+1, fmt.Sprint("p", i), "1", 5))
		}
		plans, _, e := isAll(t, stacks(three(), nil, three()), 1, l...)
		if e != 0 || len(plans) == 0 {
			t.Fatalf("%s = %d", named(l...), int(e))
		}
		for i := range plans[1:] {
			if plans[i].Root >= plans[i+1].Root {
				t.Errorf("%s = %s", named(l...), planned(plans))
			}
		}
	}
}

// All rows of two of some operations.
func TestAllOfTwo(t *testing.T) {
	some := slices.Concat(smallOps(1), smallOps(2)[:20], ops(api.Op{}, install(7, "a", "1", 5)))
	l := stacks(stack(pack(1, "a", "1", 5), pack(2, "b", "01", many(8)...)), stack(pack(1, "b", "1", 5)))
	for _, x := range some {
		for _, y := range some {
			isAll(t, l, 1, x, y)
		}
	}
}

// P18.4: Put, More

func TestPutByHand(t *testing.T) {
	a, b, c := stack(pack(1, "a", "1", 5)), stack(pack(2, "b", "1", 5)), three()
	is := func(got [][]api.Pack, want ...[]api.Pack) {
		t.Helper()
		if !areStacks(got, want) {
			t.Errorf("Put = %s, want %s", stacked(got), stacked(want))
		}
	}
	is(isPut(t, nil), nil, nil, nil, nil, nil, nil)
	is(isPut(t, stacks(a)), a, nil, nil, nil, nil, nil)
	is(isPut(t, stacks(a, b, c, a, b, c)), a, b, c, a, b, c)
	is(isPut(t, stacks(a, b, c, a, b, c, a, b)), a, b, c, a, b, c)
	is(isPut(t, nil, plan(1, c...)), c, nil, nil, nil, nil, nil)
	is(isPut(t, nil, plan(6, c...)), nil, nil, nil, nil, nil, c)
	is(isPut(t, stacks(a, b), plan(2, c...)), a, c, nil, nil, nil, nil)
	is(isPut(t, stacks(a, b), plan(2)), a, nil, nil, nil, nil, nil)
	is(isPut(t, stacks(a, b), plan(4, c...), plan(1, b...)), b, b, nil, c, nil, nil)
	is(isPut(t, stacks(a, b), plan(1, b...), plan(1, c...)), c, b, nil, nil, nil, nil)
	is(isPut(t, stacks(a, b), plan(1, c...), plan(2, a...), plan(1, b...)), b, a, nil, nil, nil, nil)
	is(isPut(t, stacks(a, b), plan(1, c...), plan(1)), nil, b, nil, nil, nil, nil)
	is(isPut(t, stacks(a, b), plan(0, c...), plan(7, c...), plan(-1, c...)), a, b, nil, nil, nil, nil)
	is(isPut(t, stacks(a, b, a, b, a, b, a), plan(7, c...), plan(3, c...)), a, b, c, b, a, b)
	is(isPut(t, nil, api.Plan{}), nil, nil, nil, nil, nil, nil)
}

func TestPutOfRoots(t *testing.T) {
	for n := range 9 {
		l := make([][]api.Pack, n)
		for i := range l {
			l[i] = stack(pack(i%8+1, "a", "1", 5))
		}
		for _, root := range append(wrongRoots(), 1, 2, 3, 4, 5, 6) {
			isPut(t, l, plan(root, three()...))
			isPut(t, l, plan(root, three()...), plan(root))
			isPut(t, l, plan(root), plan(root%6+1, three()...), plan(root, three()...))
		}
	}
}

// Put looks at no stack: what may not be stays as it is.
func TestPutOfWrongStacks(t *testing.T) {
	for _, x := range wrongStacks() {
		for root := 1; root <= 6; root++ {
			isPut(t, nil, plan(root, x.l...))
			isPut(t, stacks(x.l, x.l), plan(root, three()...))
		}
	}
}

func TestMore(t *testing.T) {
	a, b, other := pack(1, "a", "1", 5, 6), pack(1, "b", "1", 100), pack(2, "c", "1", 1000)
	wrong, none := pack(1, "A", "1", 7), pack(0, "d", "1", 30)
	for _, x := range []struct {
		had, next []api.Pack
		owner     int
		want      int
	}{
		{nil, nil, 1, 0}, {nil, stack(a), 1, 11}, {stack(a), nil, 1, 0}, {stack(a), stack(a), 1, 0}, {stack(a), stack(a, b), 1, 100}, {stack(b), stack(a), 1, 0}, {stack(a), stack(b), 1, 89},
		{stack(a, b), stack(b), 1, 0}, {stack(a, b), stack(b, a), 1, 0}, {nil, stack(a, b, other), 1, 111}, {nil, stack(a, b, other), 2, 1000}, {nil, stack(a, b, other), 3, 0},
		{stack(other), stack(a), 1, 11}, {stack(other), stack(a), 2, 0}, {stack(a), stack(other, a), 1, 0}, {stack(a), stack(other, a), 2, 1000},
		{nil, stack(a, a), 1, 22}, {nil, stack(wrong), 1, 0}, {stack(wrong), stack(a), 1, 11}, {nil, stack(none), 0, 30}, {nil, stack(none), 1, 0}, {stack(none), nil, 0, 0},
		{nil, stack(pack(-1, "a", "1", 5)), -1, 5}, {nil, stack(pack(math.MaxInt, "a", "1", 5)), math.MaxInt, 5}, {nil, stack(pack(math.MinInt, "a", "1", 5)), math.MinInt, 5}, {nil, stack(pack(257, "a", "1", 5)), 1, 0},
		{nil, stack(pack(1, "a", "1", 1<<31-1, 1<<31-1)), 1, 1<<32 - 2}, {stack(pack(1, "a", "1", 1<<31-1, 1<<31-1)), stack(a), 1, 0}, {stack(a), stack(pack(1, "a", "2", 5, 7)), 1, 1}, {stack(pack(1, "a", "2", 5, 7)), stack(a), 1, 0},
		{nil, ones(1, 17), 1, 85}, {ones(1, 17), ones(1, 20), 1, 15}, {nil, stack(pack(1, "a", "1")), 1, 0}, {nil, stack(pack(1, "a", "1", 1<<31)), 1, 0},
	} {
		if n := More(x.had, x.next, x.owner); n != x.want {
			t.Errorf("More(%s, %s, %d) = %d, want %d", packed(x.had), packed(x.next), x.owner, n, x.want)
		}
	}
}

// bytesOf is what an owner is charged for, package by package.
func bytesOf(l []api.Pack, owner int) int {
	n := 0
	for _, p := range l {
		if p.Owner == owner && mustCheck(api.Op{Kind: 1, Root: 1, Name: p.Man.Name, Version: p.Man.Version, Layers: p.Man.Layers}) == 0 {
			for _, x := range p.Man.Layers {
				n += x.Size
			}
		}
	}
	return n
}

func TestMoreOfAllSmallStacks(t *testing.T) {
	l := smallStacks()
	for i, had := range l {
		for k := i % 7; k < len(l); k += 7 {
			for _, owner := range []int{0, 1, 2} {
				if n, want := More(had, l[k], owner), max(0, bytesOf(l[k], owner)-bytesOf(had, owner)); n != want {
					t.Fatalf("More(%s, %s, %d) = %d, want %d", packed(had), packed(l[k]), owner, n, want)
				}
			}
		}
	}
}

// P18.5

// chanceOp is an operation as chance has it, in most rows one that may be.
func chanceOp(chance *rand.Rand) api.Op {
	root, name := chance.Intn(6)+1, string(rune('a'+chance.Intn(4)))
	version := []string{"0", "1", "01", "1.0", "2", "3", "10", "10.a", "b", "c"}[chance.Intn(10)]
	if chance.Intn(25) == 0 {
		root = wrongRoots()[chance.Intn(len(wrongRoots()))]
	}
	if chance.Intn(25) == 0 {
		name = []string{"", "A", long(17)}[chance.Intn(3)]
	}
	switch chance.Intn(8) {
	case 0:
		return remove(root, name)
	case 1, 2:
		return upgrade(root, name, version, many(chance.Intn(9))...)
	case 3:
		op := install(root, name, version, many(chance.Intn(10))...)
		op.Kind = chance.Intn(6) - 1
		return op
	}
	return install(root, name, version, many(chance.Intn(5)+1)...)
}

func chanceOps(chance *rand.Rand, most int) []api.Op {
	var l []api.Op
	for range chance.Intn(most) + 1 {
		l = append(l, chanceOp(chance))
	}
	return l
}

// Rows of requests by several owners: the program's stacks are those of the model, behind what is done and behind what is refused.
func TestRowsByChance(t *testing.T) {
	count := map[api.Errno]int{}
	done := 0
	for seed := range 60 {
		chance := rand.New(rand.NewSource(int64(seed)))
		var now [][]api.Pack
		var w world
		for range 120 {
			owner := chance.Intn(3) + 1
			if chance.Intn(30) == 0 {
				owner = wrongOwners()[chance.Intn(len(wrongOwners()))]
			}
			given := chanceOps(chance, []int{1, 2, 3, 9}[chance.Intn(4)])
			ahead := stacked(now)
			plans, _, e := isAll(t, now, owner, given...)
			count[e]++
			if stacked(now) != ahead {
				t.Fatalf("seed %d: All changed its stacks", seed)
			}
			now = isPut(t, now, plans...)
			if e == 0 {
				done++
				for _, op := range given {
					w, _ = w.does(owner, op)
				}
			}
			if !areStacks(now, w.all()) {
				t.Fatalf("seed %d: behind %s there is %s, want %s", seed, named(given...), stacked(now), stacked(w.all()))
			}
		}
	}
	for _, e := range []api.Errno{0, 2, 3, 5, 8, 9, 13, 14, 16} {
		if count[e] < 5 {
			t.Errorf("%d of the rows were answered %d", count[e], int(e))
		}
	}
	if done < 500 {
		t.Errorf("only %d were done", done)
	}
}

// Some stacks that came of operations by chance.
func chanceStacks(chance *rand.Rand) [][]api.Pack {
	var now [][]api.Pack
	for range 30 {
		plans, _, _ := mustAll(now, chance.Intn(2)+1, ops(chanceOp(chance)))
		now = mustPut(now, plans)
	}
	return now
}

// What All refuses changes no stack: neither those that it was handed, nor, put in, any other.
func TestRefusedChangesNothing(t *testing.T) {
	for seed := range 300 {
		chance := rand.New(rand.NewSource(int64(1000 + seed)))
		now := chanceStacks(chance)
		given := append(chanceOps(chance, 4), remove(chance.Intn(6)+1, "none"))
		kept, keptOps := deep(now), deepOps(given)
		plans, _, e := All(now, 1, given)
		if e == 0 || len(plans) != 0 {
			t.Fatalf("All(%s) = %s, %d", named(given...), planned(plans), int(e))
		}
		if !areStacks(now, kept) || !areOps(given, keptOps) || !areStacks(Put(now, plans), kept) {
			t.Fatalf("All(%s) changed %s to %s", named(given...), stacked(kept), stacked(now))
		}
	}
}

// Operations on unlike roots come to the same in either order: two neighbours that name unlike roots change places.
func TestEitherOrder(t *testing.T) {
	unlike := 0
	for seed := range 800 {
		chance := rand.New(rand.NewSource(int64(2000 + seed)))
		now := chanceStacks(chance)
		x, y := chanceOp(chance), chanceOp(chance)
		if x.Root == y.Root {
			continue
		}
		one, at, e := All(now, 1, ops(x, y))
		other, otherAt, otherE := All(now, 1, ops(y, x))
		if (e == 0) != (otherE == 0) || !arePlans(one, other) {
			t.Fatalf("%s and the other way about: %s, %d, and %s, %d", named(x, y), planned(one), int(e), planned(other), int(otherE))
		}
		if e == 0 {
			unlike++
			first, _, _ := All(now, 1, ops(x))
			second, _, _ := All(now, 1, ops(y))
			if !areStacks(Put(now, one), Put(Put(now, first), second)) || !areStacks(Put(now, one), Put(Put(now, second), first)) {
				t.Fatalf("%s one by one: %s", named(x, y), planned(one))
			}
		}
		if _, alone, aloneE := All(now, 1, ops(y)); e != 0 && at == 1 && (otherAt != 0 || otherE != e || alone != 0 || aloneE != e) {
			t.Fatalf("%s: %d at %d, the other way about %d at %d", named(x, y), int(e), at, int(otherE), otherAt)
		}
	}
	if unlike < 50 {
		t.Errorf("only %d were done", unlike)
	}
}

// Whole rows, sorted by their roots, come to the same as they were.
func TestSortedByRoots(t *testing.T) {
	done := 0
	for seed := range 800 {
		chance := rand.New(rand.NewSource(int64(3000 + seed)))
		now, given := chanceStacks(chance), chanceOps(chance, 4)
		sorted := slices.Clone(given)
		slices.SortStableFunc(sorted, func(a, b api.Op) int { return b.Root%100 - a.Root%100 })
		one, _, e := All(now, 1, given)
		other, _, otherE := All(now, 1, sorted)
		if (e == 0) != (otherE == 0) || !arePlans(one, other) {
			t.Fatalf("%s = %s, sorted %s", named(given...), planned(one), planned(other))
		}
		if e == 0 {
			done++
		}
	}
	if done < 50 {
		t.Errorf("only %d were done", done)
	}
}

// What is installed and removed again leaves the stack as it was, by Do and by All, right behind and later on.
func TestInstalledAndRemoved(t *testing.T) {
	for _, l := range append(smallStacks(), ones(1, 15), ones(8, 8), nil) {
		if rootdb.Check(l) != 0 {
			continue
		}
		for owner := 1; owner <= 8; owner++ {
			up, e := Do(l, owner, install(1, "new", "1", 5))
			if e != 0 {
				continue
			}
			down, e := Do(up, owner, remove(1, "new"))
			if e != 0 || !arePacks(down, l) {
				t.Errorf("%s became %s, %d", packed(l), packed(down), int(e))
			}
			allComesTo(t, stacks(nil, l), owner, ops(install(2, "new", "1", 5), remove(2, "new")), plan(2, l...))
			allComesTo(t, stacks(nil, l), owner, ops(install(2, "new", "1", 5), install(1, "other", "1", 5), upgrade(2, "new", "2", 6), remove(2, "new")), plan(1, pack(owner, "other", "1", 5)), plan(2, l...))
		}
	}
}

// A row of installs, and their removes in any order.
func TestInstalledAndRemovedByChance(t *testing.T) {
	for seed := range 200 {
		chance := rand.New(rand.NewSource(int64(4000 + seed)))
		had := stack(pack(1, "x", "1", 5), pack(2, "y", "1", 5), pack(1, "z", "1", 6))
		now := stacks(had, nil, had)
		var given []api.Op
		for i := range 4 {
			given = append(given, install(chance.Intn(6)+1, fmt.Sprint("p", i), "1", many(chance.Intn(3)+1)...))
		}
		for _, i := range chance.Perm(4) {
			given = append(given, remove(given[i].Root, given[i].Name))
		}
		plans, at, e := isAll(t, now, 1, given...)
		if e != 0 || at != 0 || !areStacks(Put(now, plans), Put(now, nil)) {
			t.Fatalf("%s = %s, %d, %d", named(given...), planned(plans), at, int(e))
		}
	}
}

// Rule 5: memory

func deep(l [][]api.Pack) [][]api.Pack {
	var out [][]api.Pack
	for _, s := range l {
		out = append(out, deepPacks(s))
	}
	return out
}

func deepPacks(l []api.Pack) []api.Pack {
	var out []api.Pack
	for _, p := range l {
		p.Man.Layers = append([]api.Ref{}, p.Man.Layers...)
		out = append(out, p)
	}
	return out
}

func deepOps(l []api.Op) []api.Op {
	var out []api.Op
	for _, op := range l {
		op.Layers = append([]api.Ref{}, op.Layers...)
		out = append(out, op)
	}
	return out
}

func deepPlans(l []api.Plan) []api.Plan {
	var out []api.Plan
	for _, p := range l {
		out = append(out, plan(p.Root, deepPacks(p.Packs)...))
	}
	return out
}

func areOps(a, b []api.Op) bool {
	return slices.EqualFunc(a, b, func(x, y api.Op) bool {
		return x.Kind == y.Kind && x.Root == y.Root && x.Name == y.Name && x.Version == y.Version && slices.Equal(x.Layers, y.Layers)
	})
}

// spoil writes over packages and all their layers, and over what lies behind their lengths.
func spoil(l []api.Pack) {
	l = l[:cap(l)]
	for i := range l {
		x := l[i].Man.Layers[:cap(l[i].Man.Layers)]
		for k := range x {
			x[k] = api.Ref{Sum: api.Digest{9, 9}, Size: -99}
		}
		l[i] = api.Pack{Owner: -9, Man: api.Manifest{Name: "spoilt", Version: "!"}}
	}
}

func spoilOps(l []api.Op) {
	for i := range l {
		for k := range l[i].Layers {
			l[i].Layers[k] = api.Ref{Size: -99}
		}
		l[i] = api.Op{Kind: -9}
	}
}

// hidden is a list with something behind its length.
func hidden(l []api.Pack) []api.Pack {
	out := make([]api.Pack, 0, len(l)+3)
	for _, p := range l {
		layers := append(make([]api.Ref, 0, len(p.Man.Layers)+2), p.Man.Layers...)
		layers = append(layers, refs("hidden", 77, 78)...)[:len(p.Man.Layers)]
		p.Man.Layers = layers
		out = append(out, p)
	}
	return append(out, pack(1, "hidden1", "1", 5), pack(1, "hidden2", "1", 5), pack(1, "hidden3", "1", 5))[:len(l)]
}

// isHidden tells whether what lies behind the lengths is still there.
func isHidden(l []api.Pack) bool {
	for _, p := range l {
		if !slices.Equal(p.Man.Layers[len(p.Man.Layers):cap(p.Man.Layers)][:2], refs("hidden", 77, 78)) {
			return false
		}
	}
	behind := l[len(l):][:3]
	return arePacks(behind, stack(pack(1, "hidden1", "1", 5), pack(1, "hidden2", "1", 5), pack(1, "hidden3", "1", 5)))
}

func TestDoKeepsAndChangesNothing(t *testing.T) {
	for _, op := range append(kinds(1), install(1, "hidden1", "1", 5), install(1, "a", "1", 5), remove(1, "hidden1"), upgrade(1, "hidden1", "2", 5), upgrade(1, "a", "1", 5), remove(1, "b"), upgrade(1, "c", "2", many(8)...)) {
		for owner := 1; owner <= 2; owner++ {
			l := hidden(three())
			op.Layers = append(append(make([]api.Ref, 0, len(op.Layers)+2), op.Layers...), refs("hidden", 77, 78)...)[:len(op.Layers)]
			kept := deepOps(ops(op))
			next, e := isDone(t, l, owner, op)
			if !arePacks(l, three()) || !isHidden(l) || !areOps(ops(op), kept) || !slices.Equal(op.Layers[len(op.Layers):cap(op.Layers)][:2], refs("hidden", 77, 78)) {
				t.Errorf("Do(%d, %s) changed what it was handed: %s", owner, named(op), packed(l))
			}
			want, _ := mustDo(three(), owner, kept[0])
			spoil(l)
			spoilOps(ops(op))
			if e == 0 && !arePacks(next, want) {
				t.Errorf("Do(%d, %s) kept what it was handed: %s", owner, named(kept...), packed(next))
			}
			op = kept[0]
		}
	}
}

// What Do tells may be written over: what it was handed stays, and no two lists of it share memory.
func TestDoTellsNewMemory(t *testing.T) {
	shared := refs("shared", 5, 6)
	l := stack(pack(1, "a", "1", 5), pack(1, "b", "1", 5), pack(1, "c", "1", 5))
	l[0].Man.Layers, l[1].Man.Layers, l[2].Man.Layers = shared, shared, shared
	for _, op := range []api.Op{
		{Kind: 1, Root: 1, Name: "d", Version: "1", Layers: shared}, {Kind: 2, Root: 1, Name: "b", Version: "2", Layers: shared}, {Kind: 3, Root: 1, Name: "b"},
	} {
		kept, keptOps := deepPacks(l), deepOps(ops(op))
		next, e := isDone(t, l, 1, op)
		want := deepPacks(next)
		if e != 0 {
			t.Fatal(int(e))
		}
		for i := range next {
			next[i].Man.Layers = append(next[i].Man.Layers[:1], api.Ref{Size: 100 + i})
			next[i].Man.Layers[0].Size = 200 + i
		}
		for i := range next {
			if next[i].Man.Layers[0].Size != 200+i || next[i].Man.Layers[1].Size != 100+i || len(want[i].Man.Layers) != 2 {
				t.Errorf("%s: two lists share memory", named(op))
			}
		}
		spoil(next)
		if !arePacks(l, kept) || !areOps(ops(op), keptOps) {
			t.Errorf("%s: what was told is what was handed in", named(op))
		}
		if again, _ := Do(l, 1, op); !arePacks(again, want) {
			t.Errorf("%s: told %s, again %s", named(op), packed(want), packed(again))
		}
	}
}

func TestAllKeepsAndChangesNothing(t *testing.T) {
	for seed := range 200 {
		chance := rand.New(rand.NewSource(int64(5000 + seed)))
		given := chanceOps(chance, 5)
		keptOps := deepOps(given)
		var l [][]api.Pack
		for _, s := range chanceStacks(chance) {
			l = append(l, hidden(s))
		}
		kept := deep(l)
		plans, _, e := isAll(t, l, 1, given...)
		if !areStacks(l, kept) || !areOps(given, keptOps) {
			t.Fatalf("All(%s) changed what it was handed", named(keptOps...))
		}
		for _, s := range l {
			if !isHidden(s) {
				t.Fatalf("All(%s) wrote behind a length", named(keptOps...))
			}
		}
		told := deepPlans(plans)
		for _, s := range l {
			spoil(s)
		}
		spoilOps(given)
		if e == 0 && !arePlans(plans, told) {
			t.Fatalf("All(%s) kept what it was handed", named(keptOps...))
		}
	}
}

func TestAllTellsNewMemory(t *testing.T) {
	shared := refs("shared", 5)
	one := stack(api.Pack{Owner: 1, Man: api.Manifest{Name: "a", Version: "1", Layers: shared}})
	l := stacks(one, one, one)
	given := []api.Op{{Kind: 1, Root: 3, Name: "b", Version: "1", Layers: shared}, {Kind: 1, Root: 1, Name: "b", Version: "1", Layers: shared}, {Kind: 2, Root: 2, Name: "a", Version: "2", Layers: shared}}
	kept, keptOps := deep(l), deepOps(given)
	plans, _, e := isAll(t, l, 1, given...)
	if e != 0 || len(plans) != 3 {
		t.Fatal(planned(plans), int(e))
	}
	want := deepPlans(plans)
	for i := range plans {
		spoil(plans[i].Packs)
		plans[i].Root = -1
		for k := i + 1; k < len(plans); k++ {
			if !arePlans(plans[k:k+1], want[k:k+1]) {
				t.Errorf("plans %d and %d share memory", i, k)
			}
		}
	}
	if !areStacks(l, kept) || !areOps(given, keptOps) {
		t.Error("what was told is what was handed in")
	}
	allComesTo(t, l, 1, given, want...)
}

func TestPutKeepsAndChangesNothing(t *testing.T) {
	l := stacks(hidden(three()), hidden(ones(1, 2)))
	plans := []api.Plan{{Root: 2, Packs: hidden(three())}, {Root: 4, Packs: hidden(ones(2, 1))}, {Root: 9, Packs: hidden(ones(2, 1))}, {Root: 4, Packs: hidden(ones(3, 3))}}
	kept, keptPlans := deep(l), deepPlans(plans)
	out := isPut(t, l, plans...)
	want := deep(out)
	if !areStacks(l, kept) || !arePlans(plans, keptPlans) {
		t.Error("Put changed what it was handed")
	}
	for _, s := range append(l, plans[0].Packs, plans[1].Packs, plans[2].Packs, plans[3].Packs) {
		if !isHidden(s) {
			t.Error("Put wrote behind a length")
		}
		spoil(s)
	}
	for i := range plans {
		plans[i] = api.Plan{Root: 1}
	}
	clear(l)
	if !areStacks(out, want) {
		t.Error("Put kept what it was handed")
	}
}

func TestPutTellsNewMemory(t *testing.T) {
	one := three()
	one[0].Man.Layers = one[1].Man.Layers
	l, plans := stacks(one, one, one), []api.Plan{plan(2, one...), plan(5, one...), plan(6, one...)}
	out := isPut(t, l, plans...)
	want := deep(out)
	for i := range out {
		if len(out[i]) > 0 {
			out[i][0].Man.Layers[0].Size = 4321
			if out[i][1].Man.Layers[0].Size == 4321 {
				t.Errorf("two lists of the stack %d share memory", i)
			}
		}
		spoil(out[i])
		out[i] = append(out[i], pack(1, "more", "1", 5))
		for k := i + 1; k < len(out); k++ {
			if !arePacks(out[k], want[k]) {
				t.Errorf("stacks %d and %d share memory", i, k)
			}
		}
	}
	out = append(out, one)
	if !areStacks(l, stacks(want[0], want[0], want[0])) || !arePlans(plans, []api.Plan{plan(2, want[0]...), plan(5, want[0]...), plan(6, want[0]...)}) {
		t.Error("what was told is what was handed in")
	}
	if !areStacks(Put(l, plans), want) || len(out) != 7 {
		t.Error("Put tells two things")
	}
}

// Put has one stack for each root, also behind what hides behind a list's length.
func TestPutReadsNothingBehind(t *testing.T) {
	l := append(make([][]api.Pack, 0, 9), three(), three(), three(), three())[:1]
	isPut(t, l)
	if out := Put(l, []api.Plan{plan(1, three()...), plan(2, three()...)}[:1]); len(out[1]) != 0 || len(out[2]) != 0 {
		t.Error(stacked(out))
	}
	allComesTo(t, l, 1, append(make([]api.Op, 0, 9), install(2, "new", "1", 5), install(3, "new", "1", 5))[:1], plan(2, pack(1, "new", "1", 5)))
}

func TestMoreChangesNothing(t *testing.T) {
	had, next := hidden(three()), hidden(ones(1, 9))
	if n := More(had, next, 1); n != 45-13 {
		t.Error(n)
	}
	if !arePacks(had, three()) || !arePacks(next, ones(1, 9)) || !isHidden(had) || !isHidden(next) {
		t.Error("More changed what it was handed")
	}
}

// Rules 4 and 7: nil and empty are the same; the same calls tell the same.

func TestNilAndEmpty(t *testing.T) {
	for _, op := range slices.Concat(kinds(2), smallOps(2)) {
		one, e := Do(nil, 1, op)
		other, otherE := Do([]api.Pack{}, 1, op)
		if e != otherE || !arePacks(one, other) {
			t.Errorf("Do(%s) = %s, %d, and %s, %d", named(op), packed(one), int(e), packed(other), int(otherE))
		}
		for _, l := range [][][]api.Pack{{}, {nil}, {nil, {}}, {{}, nil, {}, nil, {}, {}}} {
			plans, at, e := All(l, 1, ops(op))
			want, wantAt, wantE := All(nil, 1, ops(op))
			if e != wantE || at != wantAt || !arePlans(plans, want) {
				t.Errorf("All(%s) = %s, %d, %d", named(op), planned(plans), at, int(e))
			}
			isPut(t, l, plans...)
		}
	}
	for _, l := range [][]api.Op{nil, {}} {
		if plans, at, e := All([][]api.Pack{}, 1, l); e != 9 || at != 0 || len(plans) != 0 {
			t.Error(planned(plans), at, int(e))
		}
	}
	for _, l := range [][]api.Plan{nil, {}} {
		if out := Put([][]api.Pack{}, l); len(out) != 6 {
			t.Error(stacked(out))
		}
	}
	if More([]api.Pack{}, []api.Pack{}, 1) != 0 {
		t.Error("More of nothing")
	}
}

func TestTheSameAgain(t *testing.T) {
	for seed := range 100 {
		chance := rand.New(rand.NewSource(int64(6000 + seed)))
		now, given := chanceStacks(chance), chanceOps(chance, 6)
		plans, at, e := All(now, 1, given)
		for range 5 {
			All(chanceStacks(chance), 2, chanceOps(chance, 6))
			if again, againAt, againE := All(now, 1, given); !arePlans(again, plans) || againAt != at || againE != e {
				t.Fatalf("All(%s) tells two things", named(given...))
			}
		}
	}
}
