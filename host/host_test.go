package host

import (
	"fmt"
	"math"
	"slices"
	"strings"
	"testing"

	"veneer/api"
	"veneer/layer"
)

// txn is the k-th number of an owner in an epoch; nameOf tells it short.

func txn(epoch, owner, k int) int { return epoch<<20 + (owner-1)<<17 + k }

func nameOf(n int) string {
	return fmt.Sprintf("%d.%d.%d", n>>20, n>>17&7+1, n&(1<<17-1))
}

func namesOf(l []int) string {
	var out []string
	for _, n := range l {
		out = append(out, nameOf(n))
	}
	return strings.Join(out, " ")
}

func messages(l []api.Msg) string {
	kinds := []string{"?", "prepare", "no", "commit", "abort", "ack", "ask"}
	var out []string
	for _, m := range l {
		kind := kinds[m.Kind]
		if m.Yes {
			kind = "yes"
		}
		out = append(out, kind+" "+nameOf(m.Txn))
	}
	return strings.Join(out, ", ")
}

func stackNames(l []api.Pack) string {
	var out []string
	for _, p := range l {
		out = append(out, fmt.Sprintf("%s-%s", p.Man.Name, p.Man.Version))
	}
	return strings.Join(out, " ")
}

// brief is how a host stands, in few words: who is open (with its state) and in the book; at each root who is staged (?), who was committed (!), and the stack; how many blobs there are, and which holds; messages under way, and in boxes.
func brief(h *Host) string {
	lines := []string{"0 down"}
	if h.Up(0) {
		lines[0] = "0"
		for _, n := range h.Open() {
			lines[0] += fmt.Sprintf(" %s(%d)", nameOf(n), h.boss.machine.State(n))
		}
		if l := h.Order(); len(l) > 0 {
			lines[0] += " book " + namesOf(l)
		}
	}
	for root := 1; root <= h.roots; root++ {
		line := fmt.Sprint(root, " down")
		if p, ok := h.Part(root); ok {
			line = fmt.Sprint(root)
			for _, n := range p.Done {
				line += " !" + nameOf(n)
			}
			if p.Staged != 0 {
				line += " ?" + nameOf(p.Staged)
			}
			if l := h.Stack(root); len(l) > 0 {
				line += " " + stackNames(l)
			}
		}
		lines = append(lines, line)
	}
	line := "7 down"
	if h.Up(7) {
		line = fmt.Sprint("7 ", len(h.Blobs()))
		for _, x := range h.Holds() {
			line += fmt.Sprintf(" %d/%s", x.Root, nameOf(x.Txn))
		}
	}
	lines = append(lines, strings.ReplaceAll(line, "/0.1.0", "/own"))
	for root := 1; root <= h.roots; root++ {
		for _, l := range []struct {
			name string
			l    []api.Msg
		}{{"0>%d ", h.net.Link(0, root)}, {"[%d] ", h.net.Box(root)}, {"%d>0 ", h.net.Link(root, 0)}} {
			if len(l.l) > 0 {
				lines = append(lines, fmt.Sprintf(l.name, root)+messages(l.l))
			}
		}
	}
	if l := h.net.Box(0); len(l) > 0 {
		lines = append(lines, "[0] "+messages(l))
	}
	return strings.Join(lines, "; ")
}

// event is a step, what it is told, and, if that is not empty, how the host stands then.
type event struct {
	s     api.Step
	told  api.Told
	stand string
}

func ok(s api.Step, stand string) event { return event{s, api.Told{}, stand} }

func told(s api.Step, n int, stand string) event { return event{s, number(n), stand} }

func not(s api.Step, e api.Errno, stand string) event { return event{s, refused(e), stand} }

func play(t *testing.T, h *Host, l ...event) {
	t.Helper()
	did := ""
	for i, x := range l {
		ahead := brief(h)
		got := h.Do(x.s)
		did += fmt.Sprintf("\n%d: %s = %s\n   %s", i, stepText(x.s), tellOf(got), brief(h))
		if !sameTold(got, x.told) {
			t.Fatalf("%s\nwant %s", last(did), tellOf(x.told))
		}
		if x.stand != "" && brief(h) != x.stand {
			t.Fatalf("%s\nwant\n   %s", last(did), x.stand)
		}
		if x.stand == "" && x.told.Err != api.OK && brief(h) != ahead {
			t.Fatalf("%s\nwhat is refused changed something: it was\n   %s", last(did), ahead)
		}
	}
}

// P21.1

// TestTheExample is the chapter's.
func TestTheExample(t *testing.T) {
	h := begun(t, genesis(2, rich(1, 1, 2)))
	play(t, h,
		ok(sweep(), "0; 1; 2; 7 0"),
		told(ask(1, simple(1, "p"), simple(2, "p")), txn(1, 1, 1), "0 1.1.1(1); 1; 2; 7 1 1/1.1.1 2/1.1.1; 0>1 prepare 1.1.1; 0>2 prepare 1.1.1"),
		// Each root votes, and asks when it is ticked. Root 2's vote is the last one; it asks behind that, and the coordinator's tick sends both commits again.
		told(round(), 6, "0 1.1.1(3) book 1.1.1; 1 ?1.1.1; 2 ?1.1.1; 7 1 1/1.1.1 2/1.1.1; 0>1 commit 1.1.1, commit 1.1.1; 0>2 commit 1.1.1, commit 1.1.1, commit 1.1.1"),
		told(round(), 10, "0 book 1.1.1; 1 !1.1.1 p-1; 2 !1.1.1 p-1; 7 1 1/own 2/own"),
		told(round(), 0, "0 book 1.1.1; 1 !1.1.1 p-1; 2 !1.1.1 p-1; 7 1 1/own 2/own"),
		not(ask(1, simple(3, "p")), api.ErrDenied, ""))
	for root := 1; root <= 2; root++ {
		if tree, e := h.Tree(root); e != api.OK || !slices.Equal(tree, layerOf(file("p", "p"))) || !h.Quiet() {
			t.Fatalf("root %d: %v, %d", root, tree, int(e))
		}
	}
}

func TestNewOfEachNumberOfRoots(t *testing.T) {
	for _, n := range []int{math.MinInt, -1, 0, 1, 2, 3, 4, 5, 6, 7, 8, math.MaxInt} {
		g := api.Genesis{Roots: n, Limit: 1, Blocks: 64}
		h, e := New(g)
		if n < 1 || n > 6 {
			if h != nil || e != api.ErrArg {
				t.Errorf("New with %d roots = %v, %d", n, h, int(e))
			}
			continue
		}
		if e != api.OK || !h.Quiet() {
			t.Fatalf("New with %d roots = %d", n, int(e))
		}
		for _, node := range []int{math.MinInt, -1, 0, 1, 2, 3, 4, 5, 6, 7, 8, math.MaxInt} {
			if want := node >= 0 && node <= n || node == 7; h.Up(node) != want {
				t.Errorf("with %d roots node %d is up: %v", n, node, h.Up(node))
			}
			_, isRoot := h.Part(node)
			if want := node >= 1 && node <= n; isRoot != want {
				t.Errorf("with %d roots node %d is a root: %v", n, node, isRoot)
			}
		}
	}
}

func TestNewOfEachLimit(t *testing.T) {
	for _, n := range []int{math.MinInt, -1, 0, 1, 2, 500, 999, 1000, 1001, 1002, math.MaxInt} {
		h, e := New(api.Genesis{Roots: 1, Limit: n, Blocks: 64, Tenants: []api.Tenant{rich(1, 1)}})
		if n < 1 || n > 1000 {
			if h != nil || e != api.ErrArg {
				t.Errorf("New with the limit %d = %v, %d", n, h, int(e))
			}
			continue
		}
		if e != api.OK {
			t.Fatalf("New with the limit %d = %d", n, int(e))
		}
		asked(t, h, ask(1, simple(1, "p")))
		for i := range n {
			if len(h.Open()) != 1 {
				t.Fatalf("with the limit %d it is given up behind %d ticks", n, i)
			}
			must(t, h, tick(0))
		}
		if len(h.Open()) != 0 || len(h.Holds()) != 0 {
			t.Fatalf("with the limit %d it is not given up", n)
		}
		must(t, h, crash(0), start(0)) // it has the same limit again
		asked(t, h, ask(1, simple(1, "p")))
		for range n - 1 {
			must(t, h, tick(0))
		}
		if len(h.Open()) != 1 {
			t.Fatalf("with the limit %d it is given up too soon behind a crash", n)
		}
		must(t, h, tick(0))
		if len(h.Open()) != 0 {
			t.Fatalf("with the limit %d it is not given up behind a crash", n)
		}
	}
}

func TestNewOfEachNumberOfBlocks(t *testing.T) {
	for _, n := range []int{math.MinInt, -1, 0, 1, 63, 64, 65, 1000, 4095, 4096, 4097, math.MaxInt} {
		h, e := New(api.Genesis{Roots: 2, Limit: 1, Blocks: n})
		if n < 64 || n > 4096 {
			if h != nil || e != api.ErrArg {
				t.Errorf("New with %d blocks = %v, %d", n, h, int(e))
			}
			continue
		}
		if e != api.OK {
			t.Fatalf("New with %d blocks = %d", n, int(e))
		}
		for _, node := range []int{0, 1, 2, 7} {
			if got := h.disks[node].Blocks(); got != n {
				t.Errorf("node %d has %d blocks, want %d", node, got, n)
			}
		}
	}
}

// A new host has nothing, and each of its nodes has a disk of its own.
func TestNewHasNothing(t *testing.T) {
	g := genesis(3, rich(1, 1), tenant(2, 0, 2), tenant(8, math.MaxInt))
	h := begun(t, g)
	if got := brief(h); got != "0; 1; 2; 3; 7 0" || !h.Quiet() {
		t.Fatalf("%s", got)
	}
	if l := h.Must(); len(l) != 6 || slices.ContainsFunc(l, func(x []api.Pack) bool { return len(x) > 0 }) {
		t.Fatalf("Must = %v", l)
	}
	for _, node := range h.nodes() {
		for _, other := range h.nodes() {
			if node != other && h.disks[node] == h.disks[other] {
				t.Fatalf("nodes %d and %d have one disk", node, other)
			}
		}
	}
	for _, id := range []int{1, 2, 8} {
		tells(t, h, used(id), number(0))
	}
}

func TestNewOfTenants(t *testing.T) {
	eight := []api.Tenant{rich(3), rich(1), rich(2), rich(8), rich(7), rich(6), rich(5), rich(4)}
	for _, x := range []struct {
		l    []api.Tenant
		want api.Errno
	}{
		{nil, api.OK},
		{[]api.Tenant{}, api.OK},
		{eight, api.OK},
		{append(slices.Clone(eight), rich(5)), api.ErrThere},
		{append(slices.Clone(eight), rich(9)), api.ErrArg},
		{[]api.Tenant{tenant(1, 0)}, api.OK},
		{[]api.Tenant{tenant(1, math.MaxInt, 1, 2, 3)}, api.OK},
		{[]api.Tenant{rich(1, 3, 1, 3, 1)}, api.OK},
		{[]api.Tenant{rich(1, 2), rich(2, 2)}, api.OK},
		{[]api.Tenant{rich(0)}, api.ErrArg},
		{[]api.Tenant{rich(-1)}, api.ErrArg},
		{[]api.Tenant{rich(math.MinInt)}, api.ErrArg},
		{[]api.Tenant{rich(9)}, api.ErrArg},
		{[]api.Tenant{rich(math.MaxInt)}, api.ErrArg},
		{[]api.Tenant{tenant(1, -1)}, api.ErrArg},
		{[]api.Tenant{tenant(1, math.MinInt)}, api.ErrArg},
		{[]api.Tenant{rich(1), rich(1)}, api.ErrThere},
		{[]api.Tenant{rich(1, 0)}, api.ErrArg},
		{[]api.Tenant{rich(1, -1)}, api.ErrArg},
		{[]api.Tenant{rich(1, math.MinInt)}, api.ErrArg},
		{[]api.Tenant{rich(1, 1, 2, 3, 4)}, api.ErrArg}, // there are three roots
		{[]api.Tenant{rich(1, 4)}, api.ErrArg},
		{[]api.Tenant{rich(1, 7)}, api.ErrArg},
		{[]api.Tenant{rich(1, math.MaxInt)}, api.ErrArg},
		{[]api.Tenant{rich(1, 1), rich(2, 4)}, api.ErrArg},
		// Tenant by tenant: whichever is wrong first.
		{[]api.Tenant{rich(1), rich(1), rich(9)}, api.ErrThere},
		{[]api.Tenant{rich(1), rich(9), rich(1)}, api.ErrArg},
		{[]api.Tenant{rich(1), rich(1, 4)}, api.ErrThere},
		{[]api.Tenant{rich(1, 4), rich(1)}, api.ErrArg},
		{[]api.Tenant{rich(1, 0), rich(1)}, api.ErrArg},
		{[]api.Tenant{rich(1), rich(1, 0)}, api.ErrThere},
		{[]api.Tenant{rich(1), tenant(1, -1)}, api.ErrArg},
	} {
		h, e := New(genesis(3, x.l...))
		if e != x.want || (h != nil) != (e == api.OK) {
			t.Errorf("New of %+v = %v, %d, want %d", x.l, h, int(e), int(x.want))
		}
		if l, e := Run(genesis(3, x.l...), []api.Step{round()}); e != x.want || (len(l) == 1) != (e == api.OK) {
			t.Errorf("Run of %+v = %v, %d, want %d", x.l, l, int(e), int(x.want))
		}
	}
}

// What is wrong with the numbers comes first, whatever is wrong with the tenants.
func TestNewsFirstError(t *testing.T) {
	twice := []api.Tenant{rich(1), rich(1)}
	for _, g := range []api.Genesis{
		{Roots: 0, Limit: 1, Blocks: 64, Tenants: twice},
		{Roots: 7, Limit: 1, Blocks: 64, Tenants: twice},
		{Roots: 1, Limit: 0, Blocks: 64, Tenants: twice},
		{Roots: 1, Limit: 1001, Blocks: 64, Tenants: twice},
		{Roots: 1, Limit: 1, Blocks: 63, Tenants: twice},
		{Roots: 1, Limit: 1, Blocks: 4097, Tenants: twice},
		{},
	} {
		if h, e := New(g); h != nil || e != api.ErrArg {
			t.Errorf("New(%+v) = %v, %d", g, h, int(e))
		}
		if l, e := Run(g, []api.Step{{Kind: 99}}); len(l) != 0 || e != api.ErrArg {
			t.Errorf("Run(%+v) = %v, %d", g, l, int(e))
		}
	}
}

// A tenant may use just the roots that it has at the beginning.
func TestTenantsRoots(t *testing.T) {
	h := begun(t, genesis(4, rich(1, 2, 4), rich(2), rich(3, 4, 4)))
	for id, roots := range map[int][]int{1: {2, 4}, 2: nil, 3: {4}} {
		for root := -1; root <= 8; root++ {
			want := refused(api.ErrDenied)
			if slices.Contains(roots, root) {
				want = refused(api.OK)
			}
			tells(t, h, list(id, root, ""), want)
		}
	}
}

func TestRun(t *testing.T) {
	g := genesis(2, rich(1, 1, 2))
	for _, l := range [][]api.Step{nil, {}} {
		if got, e := Run(g, l); len(got) != 0 || e != api.OK {
			t.Errorf("Run of no steps = %v, %d", got, int(e))
		}
	}
	steps := []api.Step{ask(1, simple(1, "p")), {Kind: 99}, round(), round(), look(1, 1, "p"), list(1, 1, ""), used(1), used(2), sweep()}
	want := []api.Told{number(txn(1, 1, 1)), refused(api.ErrKind), number(3), number(6), {Entry: file("p", "p")}, {Names: []string{"p"}}, number(2), refused(api.ErrNone), number(0)}
	for range 2 {
		if got, e := Run(g, steps); e != api.OK || !slices.EqualFunc(got, want, sameTold) {
			t.Errorf("Run = %v, %d, want %v", got, int(e), want)
		}
	}
}

// P21.2

// everyStep is one of each kind.
func everyStep() []api.Step {
	return []api.Step{ask(1, simple(1, "p")), deliverDown(1, 0), deliverUp(1, 0), dropDown(1, 0), dropUp(1, 0), doubleDown(1, 0), doubleUp(1, 0), take(0), take(1), tick(0), tick(1), crash(0), crash(1), crash(7), start(0), start(1), start(7), fuse(0, 1), sweep(), look(1, 1, ""), list(1, 1, ""), state(1, 1), used(1), round()}
}

func TestDoOfNoHost(t *testing.T) {
	for _, h := range []*Host{nil, {}} {
		for _, s := range append(everyStep(), api.Step{}, api.Step{Kind: 99}, api.Step{Kind: -1}) {
			tells(t, h, s, refused(api.ErrNil))
		}
	}
}

func TestDoOfNoKind(t *testing.T) {
	h := installed(t)
	ahead := looks(h)
	for _, kind := range []int{math.MinInt, -15, -1, 0, 16, 17, 99, math.MaxInt} {
		s := ask(1, simple(1, "q"))
		s.Kind = kind
		for _, s := range []api.Step{{Kind: kind}, {Kind: kind, Node: 99}, {Kind: kind, Tenant: 1, Root: 1, N: 1, Down: true, Path: "p", Keep: []int{1}}, s} {
			tells(t, h, s, refused(api.ErrKind))
		}
	}
	for _, node := range h.nodes() { // it does not hang on who is up
		must(t, h, crash(node))
		tells(t, h, api.Step{Kind: 16, Node: node}, refused(api.ErrKind))
		must(t, h, start(node))
	}
	if looks(h) != ahead {
		t.Fatalf("what has no kind did something: %s", looks(h))
	}
}

func TestDoOfNoNode(t *testing.T) {
	for roots := 1; roots <= 6; roots++ {
		h := begun(t, genesis(roots))
		for _, node := range []int{math.MinInt, -7, -1, roots + 1, 8, 9, math.MaxInt} {
			if node == 7 {
				continue
			}
			for _, s := range []api.Step{take(node), tick(node), crash(node), start(node), fuse(node, 0), fuse(node, -1)} {
				tells(t, h, s, refused(api.ErrArg))
			}
		}
		for node := 0; node <= roots; node++ {
			play(t, h, not(take(node), api.ErrNone, ""), ok(tick(node), ""), not(start(node), api.ErrState, ""), ok(fuse(node, 100), ""), ok(crash(node), ""), not(take(node), api.ErrDown, ""), not(tick(node), api.ErrDown, ""), ok(start(node), ""))
		}
		for range 2 { // up, and down
			play(t, h, not(take(7), api.ErrArg, ""), not(tick(7), api.ErrArg, ""), ok(fuse(7, 100), ""), ok(crash(7), ""))
		}
		play(t, h, ok(start(7), ""), not(start(7), api.ErrState, ""))
	}
}

// Fields that a kind does not name mean nothing.
func TestFieldsThatAreNotNamed(t *testing.T) {
	spoilt := func(s api.Step) api.Step {
		x := api.Step{Kind: s.Kind, Node: 99, Tenant: 99, Root: 99, N: 99, Down: true, Path: "..", Wants: []api.Want{simple(9, "")}, Keep: []int{9, 9}}
		switch s.Kind {
		case api.StAsk:
			x.Tenant, x.Wants = s.Tenant, s.Wants
		case api.StDeliver, api.StDrop, api.StDouble:
			x.Root, x.Down, x.N = s.Root, s.Down, s.N
		case api.StTake, api.StTick, api.StStart:
			x.Node = s.Node
		case api.StCrash:
			x.Node, x.Keep = s.Node, s.Keep
		case api.StFuse:
			x.Node, x.N = s.Node, s.N
		case api.StLook, api.StList:
			x.Tenant, x.Root, x.Path = s.Tenant, s.Root, s.Path
		case api.StState:
			x.Tenant, x.N = s.Tenant, s.N
		case api.StUsed:
			x.Tenant = s.Tenant
		}
		return x
	}
	a, b := begun(t, taleGenesis()), begun(t, taleGenesis())
	for _, s := range append(tale(), append(everyStep(), tale()...)...) {
		x, y := a.Do(s), b.Do(spoilt(s))
		if !sameTold(x, y) || looks(a) != looks(b) {
			t.Fatalf("%s is told %s, with other fields %s", stepText(s), tellOf(x), tellOf(y))
		}
	}
}

// P21.3

// fault is something that speaks against a request, in the order in which the chapter names them.
type fault struct {
	name string
	want api.Errno
	make func(t *testing.T, h *Host, s *api.Step)
}

func lay(l ...api.Entry) func(t *testing.T, h *Host, s *api.Step) {
	return func(t *testing.T, h *Host, s *api.Step) {
		s.Wants = append(s.Wants, install(2, "l", "1", layerOf(file("l", "l")), l))
	}
}

func faults() []fault {
	return []fault{
		{"a node is down", api.ErrDown, func(t *testing.T, h *Host, s *api.Step) { must(t, h, crash(7)) }},
		{"no tenant", api.ErrNone, func(t *testing.T, h *Host, s *api.Step) { s.Tenant = 5 }},
		{"another one's root", api.ErrDenied, func(t *testing.T, h *Host, s *api.Step) { s.Wants = append(s.Wants, simple(3, "x")) }},
		{"a wrong layer", api.ErrPath, lay(file("A", ""))},
		{"a layer of too many bytes", api.ErrBig, lay(wide("b", 8)...)},
		{"no package", api.ErrForm, func(t *testing.T, h *Host, s *api.Step) {
			s.Wants = append(s.Wants, api.Want{Kind: api.OpRemove, Root: 1, Name: "n", Version: "1"})
		}},
		{"a root is busy", api.ErrBusy, func(t *testing.T, h *Host, s *api.Step) { asked(t, h, ask(2, simple(1, "b"))) }},
		{"too much for the quota", api.ErrQuota, func(t *testing.T, h *Host, s *api.Step) {
			s.Wants = append(s.Wants, install(2, "m", "1", wide("m", 7)))
		}},
		{"no number is left", api.ErrFull, func(t *testing.T, h *Host, s *api.Step) {
			for {
				if _, e := h.boss.book.Next(1); e != api.OK {
					return
				}
			}
		}},
	}
}

// TestWhichErrorIsTold lets any of the faults speak against a request at once.
func TestWhichErrorIsTold(t *testing.T) {
	all := faults()
	for set := range 1 << len(all) {
		h := begun(t, genesis(3, tenant(1, 1000, 1, 2), rich(2, 1, 2, 3)))
		s := ask(1, simple(1, "p"))
		want, names := api.OK, ""
		for i := range len(all) {
			i = (i + 1) % len(all) // a node that is down comes last: the others need it
			if set>>i&1 == 1 {
				if names += ", " + all[i].name; want == api.OK || i == 0 {
					want = all[i].want
				}
				all[i].make(t, h, &s)
			}
		}
		ahead := brief(h)
		x := h.Do(s)
		if x.Err != want || want != api.OK && !sameTold(x, refused(want)) {
			t.Fatalf("of%s: %s, want %d", names, tellOf(x), int(want))
		}
		if want != api.OK && brief(h) != ahead {
			t.Fatalf("%s: %s, want %s", names, brief(h), ahead)
		}
	}
}

// A layer's faults are told want by want, layer by layer, of whatever kind the want is.
func TestWhichLayerIsTold(t *testing.T) {
	h := begun(t, genesis(2, rich(1, 1, 2)))
	bad := map[api.Errno][]api.Entry{
		api.ErrPath:  layerOf(file("", "")),
		api.ErrKind:  layerOf(api.Entry{Path: "a"}),
		api.ErrArg:   layerOf(api.Entry{Path: "a", Kind: api.White, Mode: 1}),
		api.ErrForm:  layerOf(api.Entry{Path: "a", Kind: api.Dir, Body: "x"}),
		api.ErrBig:   wide("t", 8),
		api.ErrOrder: layerOf(file("b", ""), file("a", "")),
		api.ErrState: layerOf(file("a", ""), file("a/b", "")),
	}
	fine := layerOf(file("a", ""))
	for e, l := range bad {
		for _, m := range bad {
			for _, wants := range [][]api.Want{
				{install(1, "p", "1", l)},
				{upgrade(1, "p", "1", l)},
				{{Kind: api.OpRemove, Root: 1, Name: "p", Layers: [][]api.Entry{l}}},
				{{Kind: 99, Root: 1, Layers: [][]api.Entry{fine, l, m}}},
				{install(1, "", "", fine, l, m)},
				{install(1, "p", "1", l, m)},
				{install(1, "p", "1", fine, l), install(2, "p", "1", m)},
				{install(2, "p", "1", fine), install(1, "p", "1", l), install(1, "q", "1", m)},
				append(slices.Repeat([]api.Want{install(1, "p", "1", fine)}, 20), install(1, "p", "1", l, m)),
			} {
				tells(t, h, ask(1, wants...), refused(e))
			}
		}
	}
	if brief(h) != "0; 1; 2; 7 0" {
		t.Fatal(brief(h))
	}
}

// sized is a layer whose bytes are just so many, from 1300 to 2200.
func sized(t *testing.T, n int) []api.Entry {
	t.Helper()
	l := wide("s", 4)
	for i := 0; ; i++ {
		for body := range 257 {
			x := append(slices.Clone(l), file("t", strings.Repeat("t", body)))
			if b, e := layer.Encode(x); e == api.OK && len(b) == n {
				return x
			}
		}
		if i == 9 {
			t.Fatalf("no layer has %d bytes", n)
		}
		l = append(l, file(fmt.Sprint("s", 4+i), strings.Repeat("s", 256)))
	}
}

func TestLayersOfManyBytes(t *testing.T) {
	for n := 2040; n <= 2060; n++ {
		h := begun(t, genesis(1, rich(1, 1)))
		x := h.Do(ask(1, install(1, "p", "1", layerOf(), sized(t, n))))
		if n <= 2048 && x.Err != api.OK || n > 2048 && (!sameTold(x, refused(api.ErrBig)) || len(h.Blobs()) > 0) {
			t.Errorf("a layer of %d bytes: %s, %s", n, tellOf(x), brief(h))
		}
	}
}

func TestAskOfNodesThatAreDown(t *testing.T) {
	for _, node := range []int{0, 1, 2, 7} {
		h := begun(t, genesis(2, rich(1, 1)))
		must(t, h, crash(node))
		x := h.Do(ask(1, simple(1, "p")))
		if isDown := node == 0 || node == 7; isDown && !sameTold(x, refused(api.ErrDown)) || !isDown && x.Err != api.OK {
			t.Errorf("with node %d down: %s", node, tellOf(x))
		}
		x = h.Do(ask(9))
		if isDown := node == 0 || node == 7; isDown && !sameTold(x, refused(api.ErrDown)) || !isDown && !sameTold(x, refused(api.ErrNone)) {
			t.Errorf("with node %d down nobody is told %s", node, tellOf(x))
		}
	}
}

func TestAskOfTenants(t *testing.T) {
	h := begun(t, genesis(3, rich(2, 1, 3), rich(5, 2)))
	for _, id := range []int{math.MinInt, -1, 0, 1, 3, 4, 6, 7, 8, 9, math.MaxInt} {
		play(t, h, not(ask(id), api.ErrNone, ""), not(ask(id, simple(1, "p")), api.ErrNone, ""), not(ask(id, simple(9, "")), api.ErrNone, ""))
	}
	for _, root := range []int{math.MinInt, -1, 0, 2, 4, 7, math.MaxInt} {
		play(t, h,
			not(ask(2, simple(root, "p")), api.ErrDenied, ""),
			not(ask(2, api.Want{Root: root}), api.ErrDenied, ""),
			not(ask(2, simple(1, "p"), install(1, "q", "1", wide("x", 9)), simple(root, "p"), simple(3, "p")), api.ErrDenied, ""))
	}
	play(t, h, not(ask(5, simple(1, "p")), api.ErrDenied, ""), not(ask(5, simple(3, "p")), api.ErrDenied, ""))
	play(t, h,
		told(ask(5, simple(2, "p")), txn(1, 5, 1), "0 1.5.1(1); 1; 2; 3; 7 1 2/1.5.1; 0>2 prepare 1.5.1"),
		told(ask(2, simple(3, "p"), simple(1, "q")), txn(1, 2, 1), "0 1.2.1(1) 1.5.1(1); 1; 2; 3; 7 2 1/1.2.1 2/1.5.1 3/1.2.1; 0>1 prepare 1.2.1; 0>2 prepare 1.5.1; 0>3 prepare 1.2.1"))
}

// What plan.All refuses is told as it says, and nothing is left of it.
func TestAskOfOperations(t *testing.T) {
	h := installed(t)
	must(t, h, sweep())
	l := layerOf(file("x", "x"))
	nine := slices.Repeat([]api.Want{simple(1, "q")}, 9)
	for i := range nine {
		nine[i].Name = fmt.Sprint("q", i)
	}
	for _, x := range []struct {
		want  api.Errno
		wants []api.Want
	}{
		{api.ErrNone, nil},
		{api.ErrNone, []api.Want{}},
		{api.ErrBig, nine},
		{api.ErrKind, []api.Want{{Kind: 4, Root: 1, Name: "q", Version: "1", Layers: [][]api.Entry{l}}}},
		{api.ErrKind, []api.Want{{Root: 1}}},
		{api.ErrArg, []api.Want{install(1, "Q", "1", l)}},
		{api.ErrArg, []api.Want{install(1, "q", "", l)}},
		{api.ErrNone, []api.Want{install(1, "q", "1")}},
		{api.ErrThere, []api.Want{install(1, "q", "1", l, l)}},
		{api.ErrBig, []api.Want{install(1, "q", "1", layers()[:9]...)}},
		{api.ErrThere, []api.Want{install(1, "p", "2", l)}},
		{api.ErrThere, []api.Want{simple(1, "q"), simple(1, "q")}},
		{api.ErrNone, []api.Want{upgrade(1, "q", "2", l)}},
		{api.ErrOrder, []api.Want{upgrade(1, "p", "1", l)}},
		{api.ErrOrder, []api.Want{upgrade(1, "p", "0", l)}},
		{api.ErrOrder, []api.Want{upgrade(1, "p", "3", l), upgrade(1, "p", "2", l)}},
		{api.ErrNone, []api.Want{remove(1, "q")}},
		{api.ErrForm, []api.Want{{Kind: api.OpRemove, Root: 1, Name: "p", Version: "1"}}},
		{api.ErrForm, []api.Want{{Kind: api.OpRemove, Root: 1, Name: "p", Layers: [][]api.Entry{l}}}},
		{api.ErrNone, []api.Want{remove(1, "p"), upgrade(1, "p", "2", l)}},
		{api.ErrThere, []api.Want{simple(2, "q"), remove(1, "p"), simple(2, "q")}},
		{api.ErrBig, []api.Want{install(1, "q", "1", layers()[:8]...), install(1, "r", "1", layers()[:8]...)}},
	} {
		play(t, h, not(ask(1, x.wants...), x.want, "0 book 1.1.1; 1 !1.1.1 p-1; 2 !1.1.1 p-1; 7 1 1/own 2/own"))
	}
	asked(t, h, ask(1, remove(1, "p"), simple(1, "p"), upgrade(1, "p", "2", l), upgrade(2, "p", "1.1", l), simple(1, "q"), remove(1, "q"), simple(2, "r")))
	play(t, h, ok(tick(1), "0 1.1.2(1) book 1.1.1; 1 !1.1.1 p-1; 2 !1.1.1 p-1; 7 4 1/own 1/1.1.2 2/own 2/1.1.2; 0>1 prepare 1.1.2; 0>2 prepare 1.1.2"))
	rounds(t, h)
	if got := brief(h); got != "0 book 1.1.1 1.1.2; 1 !1.1.1 !1.1.2 p-2; 2 !1.1.1 !1.1.2 p-1.1 r-1; 7 4 1/own 2/own" {
		t.Fatal(got)
	}
	tells(t, h, sweep(), number(2)) // p's first layer, and q's: it was put though it is not held
}

// A package that another tenant laid is not changed, nor taken away.
func TestAskOfAnotherOnesPackage(t *testing.T) {
	h := begun(t, genesis(1, rich(1, 1), rich(2, 1)))
	asked(t, h, ask(1, simple(1, "p")))
	rounds(t, h)
	play(t, h,
		not(ask(2, remove(1, "p")), api.ErrDenied, ""),
		not(ask(2, upgrade(1, "p", "2", layerOf())), api.ErrDenied, ""),
		not(ask(2, simple(1, "p")), api.ErrThere, ""),
		told(ask(2, simple(1, "q")), txn(1, 2, 1), "0 1.2.1(1) book 1.1.1; 1 !1.1.1 p-1; 7 2 1/own 1/1.2.1; 0>1 prepare 1.2.1"))
}

// A request's packages have what its wants have, and their layers the digests and sizes of what is asked for.
func TestWhatIsLaid(t *testing.T) {
	a, b, c := layerOf(dir("d"), file("d/e", "hello")), layerOf(white("d"), file("f", "")), layerOf()
	h := begun(t, genesis(2, rich(3, 1, 2)))
	asked(t, h, ask(3, install(2, "pack.age-1", "1.2-rc", a, b, c)))
	rounds(t, h)
	var refs []api.Ref
	sizes := []int{9, 2, 0}
	for i, l := range [][]api.Entry{a, b, c} {
		sum, _ := layer.Id(l)
		refs = append(refs, api.Ref{Sum: sum, Size: sizes[i]})
	}
	want := []api.Pack{{Owner: 3, Man: api.Manifest{Name: "pack.age-1", Version: "1.2-rc", Layers: refs}}}
	if packsText(h.Stack(2)) != packsText(want) || packsText(h.Must()[1]) != packsText(want) || len(h.Stack(1))+len(h.Must()[0]) != 0 {
		t.Fatalf("%s, %s, want %s", packsText(h.Stack(2)), packsText(h.Must()[1]), packsText(want))
	}
	if held := h.Held(api.Hold{Root: 2}); !slices.Equal(held, []api.Digest{refs[0].Sum, refs[1].Sum, refs[2].Sum}) {
		t.Fatalf("held:%s", sumsText(held))
	}
	tells(t, h, used(3), number(11))
	if tree, e := h.Tree(2); e != api.OK || !slices.Equal(tree, layerOf(file("f", ""))) {
		t.Fatalf("%v, %d", tree, int(e))
	}
}

// A root is busy as long as a transaction that names it is open: also where it has acknowledged, and others have not.
func TestBusyRoots(t *testing.T) {
	h := begun(t, genesis(4, rich(1, 1, 2, 3, 4), rich(2, 2, 4)))
	first := asked(t, h, ask(1, simple(1, "p"), simple(2, "p"), simple(1, "q")))
	busy := func() {
		t.Helper()
		for _, l := range [][]api.Want{{simple(1, "x")}, {simple(2, "x")}, {simple(3, "x"), simple(2, "x")}, {simple(1, "x"), simple(4, "x")}, {simple(1, "x"), remove(1, "x")}} {
			play(t, h, not(ask(1, l...), api.ErrBusy, ""))
		}
		play(t, h, not(ask(2, simple(2, "x")), api.ErrBusy, ""))
	}
	busy()
	must(t, h, deliverDown(1, 0), take(1), deliverUp(1, 0), take(0)) // root 1 has voted
	busy()
	must(t, h, deliverDown(2, 0), take(2), deliverUp(2, 0), take(0)) // it is written down
	tells(t, h, state(1, first), number(api.CoCommitted))
	busy()
	must(t, h, deliverDown(1, 0), take(1), deliverUp(1, 0), take(0)) // root 1 has acknowledged
	busy()
	must(t, h, crash(0), start(0)) // it is recalled
	busy()
	must(t, h, dropDown(1, 0), deliverDown(2, 0), take(2), deliverUp(2, 0), take(0), crash(1))
	busy() // it was recalled for root 1 too
	second := asked(t, h, ask(1, simple(3, "x"), simple(4, "x")))
	play(t, h, not(ask(2, simple(4, "y")), api.ErrBusy, ""))
	must(t, h, start(1))
	rounds(t, h)
	if !slices.Equal(h.Order(), []int{first, second}) {
		t.Fatal(brief(h))
	}
	asked(t, h, ask(1, simple(1, "x"), simple(2, "x"), simple(3, "y")))
	must(t, h, crash(0), start(0))
	asked(t, h, ask(1, simple(1, "x"), simple(2, "x")))           // nothing is known of the other one
	play(t, h, ok(tick(0), ""), ok(tick(0), ""), ok(tick(0), "")) // it is given up
	asked(t, h, ask(1, simple(1, "x"), simple(2, "x")))
}

// The quota holds to the byte, with all that is laid at all roots, and what open requests reserve.
func TestQuota(t *testing.T) {
	of := func(root int, name string, n int) api.Want { // charged for n, from 1 on
		return install(root, name, "1", layerOf(file("f", strings.Repeat("x", n-1))))
	}
	h := begun(t, genesis(3, tenant(1, 20, 1, 2, 3), tenant(2, 5, 1, 2, 3)))
	play(t, h, not(ask(1, of(1, "p", 21)), api.ErrQuota, ""), not(ask(1, of(1, "p", 10), of(2, "p", 11)), api.ErrQuota, ""))
	asked(t, h, ask(1, of(1, "p", 20)))
	play(t, h, not(ask(1, of(2, "p", 1)), api.ErrQuota, ""))
	asked(t, h, ask(2, of(2, "p", 5))) // the other one has a quota of its own
	tells(t, h, used(1), number(0))
	must(t, h, tick(0), tick(0), tick(0)) // both are given up, and reserve nothing
	asked(t, h, ask(1, of(1, "p", 7), of(2, "p", 4)))
	play(t, h, not(ask(1, of(3, "p", 10)), api.ErrQuota, ""))
	rounds(t, h)
	tells(t, h, used(1), number(11))
	play(t, h, not(ask(1, of(3, "p", 10)), api.ErrQuota, ""))
	asked(t, h, ask(1, of(3, "p", 9)))
	rounds(t, h)
	tells(t, h, used(1), number(20))
	play(t, h,
		not(ask(1, of(1, "q", 1)), api.ErrQuota, ""),
		not(ask(1, upgrade(1, "p", "2", layerOf(file("f", "xxxxxxx")))), api.ErrQuota, ""),
		not(ask(1, remove(1, "p"), of(2, "q", 1)), api.ErrQuota, "")) // what is less at one root counts nothing at another one
	asked(t, h, ask(1, remove(1, "p"), of(1, "q", 7)))
	asked(t, h, ask(1, upgrade(2, "p", "2", layerOf(file("f", "x")))))
	play(t, h, not(ask(1, of(3, "q", 1)), api.ErrQuota, "")) // nothing of it is done yet
	rounds(t, h)
	tells(t, h, used(1), number(18))
	play(t, h, not(ask(1, of(3, "q", 3)), api.ErrQuota, ""))
	asked(t, h, ask(1, of(3, "q", 2)))
	rounds(t, h)
	tells(t, h, used(1), number(20))
	asked(t, h, ask(1, remove(1, "q"), remove(2, "p"), remove(3, "q"), remove(3, "p")))
	rounds(t, h)
	tells(t, h, used(1), number(0))
	asked(t, h, ask(1, install(1, "none", "1", layerOf())))
}

// What counts is the book: what is written down as removed counts no more, also where its root has not done it yet.
func TestQuotaOfWhatIsWrittenDown(t *testing.T) {
	h := begun(t, genesis(2, tenant(1, 4, 1, 2)))
	asked(t, h, ask(1, simple(1, "pp")))
	rounds(t, h)
	asked(t, h, ask(1, remove(1, "pp")))
	must(t, h, deliverDown(1, 0), take(1), deliverUp(1, 0))
	play(t, h, not(ask(1, simple(2, "qq")), api.ErrQuota, ""),
		ok(take(0), "0 1.1.2(3) book 1.1.1 1.1.2; 1 !1.1.1 ?1.1.2 pp-1; 2; 7 1 1/own 1/1.1.2; 0>1 commit 1.1.2"),
		told(ask(1, simple(2, "qq")), txn(1, 1, 3), "0 1.1.2(3) 1.1.3(1) book 1.1.1 1.1.2; 1 !1.1.1 ?1.1.2 pp-1; 2; 7 2 1/own 1/1.1.2 2/1.1.3; 0>1 commit 1.1.2; 0>2 prepare 1.1.3"))
	rounds(t, h)
}

// Reserved is what open requests ask for, until it is written down, or given up, however that comes.
func TestReserved(t *testing.T) {
	of := func(root, n int) api.Want {
		return install(root, "p", "1", layerOf(file("f", strings.Repeat("x", n-1))))
	}
	g := genesis(3, tenant(1, 10, 1, 2, 3), tenant(2, 10, 1, 2, 3))
	fits := func(h *Host, free int) { // just so many bytes are free
		t.Helper()
		x := h.Do(ask(1, of(3, free+1)))
		y := h.Do(ask(1, of(3, max(1, free))))
		if !sameTold(x, refused(api.ErrQuota)) || free > 0 && y.Err != api.OK || free == 0 && y.Err != api.ErrQuota {
			t.Fatalf("of %d bytes: %s; %s; %s", free, tellOf(x), tellOf(y), brief(h))
		}
	}
	h := begun(t, g)
	asked(t, h, ask(1, of(1, 4)))
	asked(t, h, ask(1, of(2, 3)))
	fits(h, 3)

	h = begun(t, g) // another one's
	asked(t, h, ask(2, of(1, 4)))
	fits(h, 10)

	h = begun(t, g) // one said no
	asked(t, h, ask(1, of(1, 4)))
	must(t, h, deliverDown(1, 0), take(1), tick(0), tick(0), tick(0)) // it is given up, but root 1 does not know
	asked(t, h, ask(1, of(2, 2), of(1, 5)))
	must(t, h, dropDown(1, 0), dropDown(1, 0), dropDown(1, 0), deliverDown(1, 0), take(1), dropUp(1, 0), deliverUp(1, 0), take(0))
	if got := brief(h); got != "0; 1 ?1.1.1; 2; 3; 7 3; 0>2 prepare 1.1.2, abort 1.1.2" {
		t.Fatal(got)
	}
	fits(h, 10)

	h = begun(t, g) // the coordinator lost it
	asked(t, h, ask(1, of(1, 4)))
	must(t, h, crash(0), start(0))
	fits(h, 10)

	h = begun(t, g) // it is written down: it is charged for once
	asked(t, h, ask(1, of(1, 4)))
	must(t, h, deliverDown(1, 0), take(1), deliverUp(1, 0), take(0))
	if got := brief(h); got != "0 1.1.1(3) book 1.1.1; 1 ?1.1.1; 2; 3; 7 1 1/1.1.1; 0>1 commit 1.1.1" {
		t.Fatal(got)
	}
	fits(h, 6)
}

// Two tenants lay the same layer: the store has it once, each is charged for all of it.
func TestTheSameLayers(t *testing.T) {
	h := begun(t, genesis(2, tenant(1, 8, 1, 2), tenant(2, 7, 1, 2)))
	l := layerOf(file("abc", "defgh"))
	play(t, h,
		told(ask(1, install(1, "p", "1", l)), txn(1, 1, 1), "0 1.1.1(1); 1; 2; 7 1 1/1.1.1; 0>1 prepare 1.1.1"),
		not(ask(2, install(2, "p", "1", l)), api.ErrQuota, ""),
		told(ask(2, install(2, "p", "1", l[:0])), txn(1, 2, 1), "0 1.1.1(1) 1.2.1(1); 1; 2; 7 2 1/1.1.1 2/1.2.1; 0>1 prepare 1.1.1; 0>2 prepare 1.2.1"))
	h = begun(t, genesis(2, tenant(1, 8, 1, 2), tenant(2, 8, 1, 2)))
	asked(t, h, ask(1, install(1, "p", "1", l)))
	asked(t, h, ask(2, install(2, "q", "1", l)))
	rounds(t, h)
	if len(h.Blobs()) != 1 {
		t.Fatal(brief(h))
	}
	play(t, h, told(used(1), 8, ""), told(used(2), 8, ""),
		not(ask(1, install(2, "p", "1", l)), api.ErrQuota, ""), // at each root it is charged for anew
		told(ask(1, remove(1, "p")), txn(1, 1, 2), ""))
	rounds(t, h)
	play(t, h, told(sweep(), 0, ""), told(used(1), 0, ""), told(used(2), 8, ""))
	asked(t, h, ask(2, remove(2, "q")))
	rounds(t, h)
	play(t, h, told(sweep(), 1, "0 book 1.1.1 1.2.1 1.1.2 1.2.2; 1 !1.1.1 !1.1.2; 2 !1.2.1 !1.2.2; 7 0 1/own 2/own"))
}

// Numbers are an owner's, one behind the other; what is refused ahead of the store takes none.
func TestNumbers(t *testing.T) {
	h := begun(t, genesis(3, rich(1, 1, 2, 3), rich(8, 1, 2, 3), tenant(3, 1, 3)))
	tells(t, h, ask(1, simple(1, "a")), number(txn(1, 1, 1)))
	tells(t, h, ask(8, simple(2, "a")), number(txn(1, 8, 1)))
	tells(t, h, ask(1, simple(3, "a")), number(txn(1, 1, 2)))
	for _, s := range []api.Step{ask(1, simple(1, "b")), ask(1), ask(1, remove(1, "b")), ask(1, simple(4, "b")), ask(3, install(3, "q", "1", wide("x", 1))), ask(1, install(1, "b", "1", wide("x", 9)))} {
		if x := h.Do(s); x.Err == api.OK || x.N != 0 {
			t.Fatalf("%s: %s", stepText(s), tellOf(x))
		}
	}
	rounds(t, h)
	tells(t, h, ask(1, simple(1, "b")), number(txn(1, 1, 3)))
	tells(t, h, ask(8, simple(2, "b")), number(txn(1, 8, 2)))
	must(t, h, crash(0), start(0))
	tells(t, h, ask(1, simple(1, "b")), number(txn(2, 1, 1)))
	must(t, h, crash(0), start(0), crash(0), start(0))
	tells(t, h, ask(8, simple(2, "b")), number(txn(4, 8, 1)))
}

// Of what the store can't take nothing is begun, and what was held for it is let go; the number is used up, and what was put stays till it is swept away.
func TestAskOnAFullStore(t *testing.T) {
	seen := map[string]int{}
	for n := range 2000 {
		g := genesis(2, rich(1, 1, 2))
		g.Blocks = 64
		h := begun(t, g)
		tail := layerOf(file("t", strings.Repeat("t", n%250)))
		s := ask(1, install(1, "p", "1", wide("x", n/250), tail), install(2, "q", "1", tail, layerOf(file("u", "u"))))
		x := h.Do(s)
		if x.Err == api.OK {
			seen["taken"]++
			continue
		}
		if !sameTold(x, refused(api.ErrFull)) || len(h.Open()) != 0 || len(h.net.Link(0, 1))+len(h.net.Link(0, 2)) != 0 {
			t.Fatalf("%d: %s, %s", n, tellOf(x), brief(h))
		}
		if len(h.Holds()) != 0 {
			t.Fatalf("%d: %s", n, brief(h))
		}
		seen[fmt.Sprint(len(h.Blobs()), " put")]++
		must(t, h, sweep())
		tells(t, h, ask(1, simple(1, "r")), number(txn(1, 1, 2)))
		tells(t, h, ask(1, simple(2, "r")), number(txn(1, 1, 3)))
		rounds(t, h)
	}
	if testing.Verbose() {
		t.Log(seen)
	}
	for _, what := range []string{"taken", "0 put", "1 put", "2 put", "3 put"} {
		if seen[what] == 0 {
			t.Errorf("%s: never", what)
		}
	}
}
