package host

import (
	"fmt"
	"math"
	"slices"
	"strings"
	"testing"

	"veneer/api"
	"veneer/layer"
	"veneer/rootdb"
)

// P21.8

// The ninth example: what was removed goes behind the commit, not ahead of it.
func TestSweep(t *testing.T) {
	h := begun(t, genesis(2, rich(1, 1, 2)))
	play(t, h, told(sweep(), 0, "0; 1; 2; 7 0"))
	asked(t, h, ask(1, install(1, "p", "1", layerOf(file("a", "")), layerOf(file("b", ""))), install(2, "p", "1", layerOf(file("b", "")), layerOf(file("c", "")))))
	play(t, h, told(sweep(), 0, ""))
	rounds(t, h)
	asked(t, h, ask(1, remove(1, "p")))
	must(t, h, deliverDown(1, 0), take(1), deliverUp(1, 0), take(0), deliverDown(1, 0))
	play(t, h, told(sweep(), 0, ""), ok(take(1), ""),
		told(sweep(), 1, "0 1.1.2(3) book 1.1.1 1.1.2; 1 !1.1.1 !1.1.2; 2 !1.1.1 p-1; 7 2 1/own 2/own; 1>0 ack 1.1.2"),
		told(sweep(), 0, ""))
	asked(t, h, ask(1, remove(2, "p")))
	rounds(t, h)
	play(t, h, told(sweep(), 2, "0 book 1.1.1 1.1.2 1.1.3; 1 !1.1.1 !1.1.2; 2 !1.1.1 !1.1.3; 7 0 1/own 2/own"),
		ok(crash(7), ""), not(sweep(), api.ErrDown, ""))
	for _, node := range []int{0, 1, 2} { // nobody else is asked for
		must(t, h, crash(node))
	}
	must(t, h, start(7), sweep())
}

// Where the store goes down on the way the number of blobs that went is told beside the error.
func TestSweepBesideAnError(t *testing.T) {
	begin := func() *Host {
		h := begun(t, genesis(1, rich(1, 1)))
		must(t, h, ask(1, install(1, "p", "1", layerOf(file("a", "")), layerOf(file("b", "")), layerOf(file("c", "")))), crash(0), start(0), tick(0))
		return h
	}
	h := begin()
	ahead := h.disks[7].Done()
	tells(t, h, sweep(), number(3))
	writes := h.disks[7].Done() - ahead
	seen, went := map[int]bool{}, 0
	for n := range writes {
		h := begin()
		must(t, h, fuse(7, n))
		x := h.Do(sweep())
		if !sameTold(x, api.Told{Err: api.ErrDown, N: x.N}) || h.Up(7) || x.N < went {
			t.Fatalf("with a fuse of %d: %s", n, tellOf(x))
		}
		went = x.N
		seen[went] = true
		tells(t, h, sweep(), refused(api.ErrDown))
		must(t, h, crash(7), start(7))
		if len(h.Blobs()) != 3-x.N {
			t.Fatalf("with a fuse of %d: %s, %s", n, tellOf(x), brief(h))
		}
		tells(t, h, sweep(), number(3-x.N))
	}
	if !seen[0] || !seen[1] || !seen[2] {
		t.Fatalf("went: %v", seen)
	}
}

// P21.9

func TestLookAndList(t *testing.T) {
	h := begun(t, genesis(2, rich(1, 1, 2), rich(2, 2)))
	asked(t, h, ask(1, install(1, "p", "1", layerOf(dir("d"), file("d/e", "one")), layerOf(file("d/f", "two"), white("d/g"), file("z/y/x", "")))))
	entry := func(x api.Entry) api.Told { return api.Told{Entry: x} }
	names := func(l ...string) api.Told { return api.Told{Names: l} }
	tells(t, h, list(1, 1, ""), api.Told{}) // nothing of it is there yet
	tells(t, h, look(1, 1, "d"), refused(api.ErrNone))
	rounds(t, h)
	for _, x := range []struct {
		s    api.Step
		want api.Told
	}{
		{look(1, 1, ""), entry(api.Entry{Kind: api.Dir})},
		{look(1, 1, "/./"), entry(api.Entry{Kind: api.Dir})},
		{look(1, 1, "d"), entry(dir("d"))},
		{look(1, 1, "/d/../d/e"), entry(file("d/e", "one"))},
		{look(1, 1, "d/f"), entry(file("d/f", "two"))},
		{look(1, 1, "z/y"), entry(api.Entry{Path: "z/y", Kind: api.Dir})},
		{look(1, 1, "d/g"), refused(api.ErrNone)},
		{look(1, 1, "d/e/f"), refused(api.ErrNone)},
		{look(1, 1, "../d"), refused(api.ErrPath)},
		{look(1, 1, "D"), refused(api.ErrPath)},
		{look(1, 1, "a/a/a/a/a/a/a/a/a"), refused(api.ErrBig)},
		{list(1, 1, ""), names("d", "z")},
		{list(1, 1, "/d/"), names("e", "f")},
		{list(1, 1, "z/y"), names("x")},
		{list(1, 1, "d/e"), refused(api.ErrKind)},
		{list(1, 1, "d/g"), refused(api.ErrNone)},
		{list(1, 1, ".."), refused(api.ErrPath)},
		{list(1, 1, "D"), refused(api.ErrPath)},
		{list(1, 1, "a/a/a/a/a/a/a/a/a"), refused(api.ErrBig)},
		{list(1, 2, ""), names()},
		{list(2, 2, ""), names()},
		{look(2, 2, "d"), refused(api.ErrNone)},
	} {
		tells(t, h, x.s, x.want)
	}
}

// Of what speaks against looking on, the tenant comes first, then the root, then what is down, then the path.
func TestErrorsOfLooking(t *testing.T) {
	for _, kind := range []int{api.StLook, api.StList} {
		at := func(tenant, root int, path string) api.Step {
			return api.Step{Kind: kind, Tenant: tenant, Root: root, Path: path}
		}
		for set := range 16 { // which nodes are down
			h := begun(t, genesis(2, rich(1, 1), rich(2)))
			asked(t, h, ask(1, simple(1, "p")))
			rounds(t, h)
			for i, node := range []int{0, 1, 2, 7} {
				if set>>i&1 == 1 {
					must(t, h, crash(node))
				}
			}
			isDown := set&2 != 0 || set&8 != 0 // the root, or the store: nobody else is asked for
			for _, path := range []string{"", "p", "..", "nobody"} {
				for _, id := range []int{math.MinInt, -1, 0, 3, 8, 9, math.MaxInt} {
					for _, root := range []int{0, 1, 2, 3} {
						tells(t, h, at(id, root, path), refused(api.ErrNone))
					}
				}
				for _, root := range []int{math.MinInt, -1, 0, 2, 3, 7, math.MaxInt} {
					tells(t, h, at(1, root, path), refused(api.ErrDenied))
				}
				tells(t, h, at(2, 1, path), refused(api.ErrDenied))
				if x := h.Do(at(1, 1, path)); isDown != (x.Err == api.ErrDown) || isDown && !sameTold(x, refused(api.ErrDown)) {
					t.Fatalf("%s of %04b: %s", stepText(at(1, 1, path)), set, tellOf(x))
				}
			}
		}
	}
}

// A stack of which the store lacks a layer, or has something else there, can't be seen: that comes ahead of the path.
func TestWhatCantBeSeen(t *testing.T) {
	h := begun(t, genesis(1, rich(1, 1)))
	asked(t, h, ask(1, simple(1, "p")))
	rounds(t, h)
	h.store.Free(api.Hold{Root: 1})
	h.store.Sweep()
	for _, path := range []string{"", "p", ".."} {
		tells(t, h, look(1, 1, path), refused(api.ErrNone))
		tells(t, h, list(1, 1, path), refused(api.ErrNone))
	}
	if tree, e := h.Tree(1); len(tree) != 0 || e != api.ErrNone {
		t.Fatalf("%v, %d", tree, int(e))
	}
	x, _ := h.store.Put("no layer")
	h.bases[1].Stage(9, []api.Pack{{Owner: 1, Man: api.Manifest{Name: "p", Version: "1", Layers: []api.Ref{{Sum: x}}}}})
	h.bases[1].Commit(9)
	tells(t, h, look(1, 1, ".."), refused(api.ErrForm))
	tells(t, h, list(1, 1, ".."), refused(api.ErrForm))
	if tree, e := h.Tree(1); len(tree) != 0 || e != api.ErrForm {
		t.Fatalf("%v, %d", tree, int(e))
	}
}

func TestState(t *testing.T) {
	h := begun(t, genesis(2, rich(1, 1, 2), rich(2, 2)))
	one := asked(t, h, ask(1, simple(1, "p"), simple(2, "p")))
	play(t, h,
		told(state(1, one), api.CoVoting, ""), told(state(1, one+1), 0, ""), told(state(1, 1), 0, ""), told(state(2, 1<<17), 0, ""), told(state(2, 1<<17+1), 0, ""),
		not(state(1, 1<<17), api.ErrDenied, ""), not(state(2, one), api.ErrDenied, ""), not(state(2, 1), api.ErrDenied, ""),
		not(state(1, 0), api.ErrDenied, ""), not(state(1, -1), api.ErrDenied, ""), not(state(1, math.MinInt), api.ErrDenied, ""),
		told(state(1, 1<<40), 0, ""), told(state(1, 1<<40+1), 0, ""), told(state(1, 1<<50+1), 0, ""), not(state(2, 1<<50+1), api.ErrDenied, ""))
	for owner := 1; owner <= 8; owner++ {
		want := refused(api.ErrDenied)
		if owner == 2 {
			want = number(0)
		}
		tells(t, h, state(2, txn(3, owner, 5)), want)
	}
	for _, id := range []int{math.MinInt, -1, 0, 3, 8, 9, math.MaxInt} {
		play(t, h, not(state(id, one), api.ErrNone, ""), not(state(id, 0), api.ErrNone, ""), not(state(id, txn(1, 3, 1)), api.ErrNone, ""))
	}
	must(t, h, deliverDown(1, 0), take(1), deliverDown(2, 0), take(2), deliverUp(1, 0), take(0), deliverUp(2, 0))
	play(t, h, told(state(1, one), api.CoVoting, ""), ok(take(0), ""), told(state(1, one), api.CoCommitted, ""))
	rounds(t, h)
	play(t, h, told(state(1, one), api.CoCommitted, ""), // the machine does not know of it any more
		told(ask(1, simple(1, "q")), txn(1, 1, 2), ""), ok(tick(0), ""), ok(tick(0), ""), ok(tick(0), ""), told(state(1, txn(1, 1, 2)), 0, ""),
		ok(crash(0), ""), not(state(1, one), api.ErrDown, ""), not(state(1, 1), api.ErrDown, ""), not(state(2, one), api.ErrDenied, ""), not(state(1, 0), api.ErrDenied, ""), not(state(3, one), api.ErrNone, ""), not(state(3, 0), api.ErrNone, ""),
		ok(start(0), ""), told(state(1, one), api.CoCommitted, ""),
		ok(crash(1), ""), ok(crash(2), ""), ok(crash(7), ""), told(state(1, one), api.CoCommitted, ""))
}

func TestUsed(t *testing.T) {
	h := begun(t, genesis(2, rich(1, 1, 2), rich(2, 2), rich(3)))
	asked(t, h, ask(1, simple(1, "pp"), simple(2, "pp")))
	play(t, h, told(used(1), 0, "")) // it is not written down yet
	must(t, h, deliverDown(1, 0), take(1), deliverDown(2, 0), take(2), deliverUp(1, 0), take(0), deliverUp(2, 0), take(0))
	play(t, h, told(used(1), 8, "0 1.1.1(3) book 1.1.1; 1 ?1.1.1; 2 ?1.1.1; 7 1 1/1.1.1 2/1.1.1; 0>1 commit 1.1.1; 0>2 commit 1.1.1"))
	rounds(t, h)
	asked(t, h, ask(2, simple(2, "q")))
	rounds(t, h)
	play(t, h, told(used(1), 8, ""), told(used(2), 2, ""), told(used(3), 0, ""))
	for _, id := range []int{math.MinInt, -1, 0, 4, 8, 9, math.MaxInt} {
		play(t, h, not(used(id), api.ErrNone, ""))
	}
	play(t, h, ok(crash(0), ""), not(used(1), api.ErrDown, ""), not(used(3), api.ErrDown, ""), not(used(4), api.ErrNone, ""),
		ok(start(0), ""), ok(crash(1), ""), ok(crash(2), ""), ok(crash(7), ""), told(used(1), 8, ""))
}

// P21.10

// A round goes from root to root; what the coordinator says to one is taken by those that come later in the same round.
func TestRound(t *testing.T) {
	h := begun(t, genesis(3, rich(1, 1, 2, 3)))
	play(t, h, told(round(), 0, "0; 1; 2; 3; 7 0"),
		told(ask(1, simple(2, "p"), simple(3, "p")), txn(1, 1, 1), ""),
		ok(deliverDown(2, 0), ""), ok(take(2), ""), ok(dropUp(2, 0), ""), ok(dropDown(3, 0), ""), ok(crash(0), ""), ok(start(0), ""),
		told(ask(1, simple(1, "q"), simple(2, "q"), simple(3, "q")), txn(2, 1, 1), "0 2.1.1(1); 1; 2 ?1.1.1; 3; 7 2 1/2.1.1 2/1.1.1 2/2.1.1 3/1.1.1 3/2.1.1; 0>1 prepare 2.1.1; 0>2 prepare 2.1.1; 0>3 prepare 2.1.1"),
		// Root 1 votes, and asks; root 2 says no, and asks for the other one; so root 3 is told the prepare and the abort: it stages, votes, and gives up again. Nobody hears its vote but the coordinator, which tells it to give up once more.
		told(round(), 1+2+1+2+2+1, "0; 1 ?2.1.1; 2 ?1.1.1; 3; 7 2; 0>1 abort 2.1.1; 0>2 abort 1.1.1; 0>3 abort 2.1.1"),
		told(round(), 3, "0; 1; 2; 3; 7 2"),
		told(round(), 0, "0; 1; 2; 3; 7 2"))
}

func TestRoundWithNodesDown(t *testing.T) {
	begin := func(nodes ...int) *Host {
		h := begun(t, genesis(2, rich(1, 1, 2)))
		must(t, h, ask(1, simple(1, "p"), simple(2, "p")))
		for _, node := range nodes {
			must(t, h, crash(node))
		}
		return h
	}
	play(t, begin(1), told(round(), 3, "0 1.1.1(1); 1 down; 2 ?1.1.1; 7 1 1/1.1.1 2/1.1.1; 0>1 prepare 1.1.1, prepare 1.1.1"),
		told(round(), 1, "0 1.1.1(1); 1 down; 2 ?1.1.1; 7 1 1/1.1.1 2/1.1.1; 0>1 prepare 1.1.1, prepare 1.1.1, prepare 1.1.1"),
		// Three votes and an ask of root 1 are each answered by a commit; root 2 takes its own in the same round; the tick sends one more to root 1.
		ok(start(1), ""), told(round(), 3+4+1+1, "0 1.1.1(3) book 1.1.1; 1 ?1.1.1; 2 !1.1.1 p-1; 7 1 1/1.1.1 2/own; 0>1 commit 1.1.1, commit 1.1.1, commit 1.1.1, commit 1.1.1, commit 1.1.1"))
	play(t, begin(0), told(round(), 2, "0 down; 1 ?1.1.1; 2 ?1.1.1; 7 1 1/1.1.1 2/1.1.1; 1>0 yes 1.1.1, ask 1.1.1; 2>0 yes 1.1.1, ask 1.1.1"),
		told(round(), 0, "0 down; 1 ?1.1.1; 2 ?1.1.1; 7 1 1/1.1.1 2/1.1.1; 1>0 yes 1.1.1, ask 1.1.1, ask 1.1.1; 2>0 yes 1.1.1, ask 1.1.1, ask 1.1.1"))
	play(t, begin(1, 2), told(round(), 0, "0 1.1.1(1); 1 down; 2 down; 7 1 1/1.1.1 2/1.1.1; 0>1 prepare 1.1.1, prepare 1.1.1; 0>2 prepare 1.1.1, prepare 1.1.1"))
	play(t, begin(0, 1, 2, 7), told(round(), 0, "0 down; 1 down; 2 down; 7 down; 0>1 prepare 1.1.1; 0>2 prepare 1.1.1"))
	h := begin(7)
	play(t, h, told(round(), 6, "0 1.1.1(3) book 1.1.1; 1 ?1.1.1; 2 ?1.1.1; 7 down; 0>1 commit 1.1.1, commit 1.1.1; 0>2 commit 1.1.1, commit 1.1.1, commit 1.1.1"),
		told(round(), 5, "0 1.1.1(3) book 1.1.1; 1 !1.1.1 p-1; 2 !1.1.1 p-1; 7 down; 0>1 commit 1.1.1; 0>2 commit 1.1.1")) // nobody acknowledges: the tenth example
	must(t, h, start(7))
	rounds(t, h)
}

// Who goes down on the way takes nothing more, and is not ticked.
func TestRoundWithFuses(t *testing.T) {
	h := begun(t, genesis(2, rich(1, 1, 2)))
	must(t, h, ask(1, simple(1, "p"), simple(2, "p")), doubleDown(1, 0))
	play(t, h, ok(fuse(1, 0), ""), told(round(), 1+0+1+2, "0 1.1.1(1); 1 down; 2 ?1.1.1; 7 1 1/1.1.1 2/1.1.1; 0>1 prepare 1.1.1"))
	h = begun(t, genesis(2, rich(1, 1, 2)))
	must(t, h, ask(1, simple(1, "p"), simple(2, "p")), doubleDown(2, 0))
	play(t, h, ok(fuse(0, 0), ""), told(round(), 1+2+2+1, "0 down; 1 ?1.1.1; 2 ?1.1.1; 7 1 1/1.1.1 2/1.1.1")) // the second yes, and the ask, were in its box
}

// P21.11

// Of a host of all things at once: what is told beside.
func TestToldBeside(t *testing.T) {
	h := begun(t, genesis(3, rich(1, 1, 2, 3), rich(2, 1, 2, 3)))
	a, b := layerOf(file("a", "a")), layerOf(file("b", "b"))
	idA, _ := layer.Id(a)
	idB, _ := layer.Id(b)
	first := asked(t, h, ask(1, install(1, "p", "1", a), install(2, "p", "1", b, a)))
	rounds(t, h)
	second := asked(t, h, ask(2, install(2, "q", "1", b), install(3, "q", "1", a)))
	must(t, h, deliverDown(2, 0), take(2), deliverUp(2, 0), take(0))
	packP := func(sums ...api.Digest) api.Pack {
		x := api.Pack{Owner: 1, Man: api.Manifest{Name: "p", Version: "1"}}
		for _, sum := range sums {
			x.Man.Layers = append(x.Man.Layers, api.Ref{Sum: sum, Size: 2})
		}
		return x
	}
	all := func() string {
		part1, ok1 := h.Part(1)
		part2, ok2 := h.Part(2)
		part3, ok3 := h.Part(3)
		return fmt.Sprint(part1, ok1, part2, ok2, part3, ok3, packsTexts([][]api.Pack{h.Stack(1), h.Stack(2), h.Stack(3)}))
	}
	want := fmt.Sprint(api.Part{Root: 1, Done: []int{first}}, true, api.Part{Root: 2, Staged: second, Done: []int{first}}, true, api.Part{Root: 3}, true, packsTexts([][]api.Pack{{packP(idA)}, {packP(idB, idA)}, nil}))
	if got := all(); got != want {
		t.Fatalf("%s, want %s", got, want)
	}
	if !slices.Equal(h.Order(), []int{first}) || !slices.Equal(h.Open(), []int{second}) || packsTexts(h.Must()) != packsTexts([][]api.Pack{{packP(idA)}, {packP(idB, idA)}, nil, nil, nil, nil}) {
		t.Fatalf("%v, %v, %s", h.Order(), h.Open(), packsTexts(h.Must()))
	}
	if !slices.Equal(h.Holds(), []api.Hold{{Root: 1}, {Root: 2}, {Root: 2, Txn: second}, {Root: 3, Txn: second}}) || !slices.Equal(h.Held(api.Hold{Root: 2, Txn: second}), []api.Digest{idB, idA, idB}) {
		t.Fatalf("%s", brief(h))
	}
	blobs := []api.Digest{idA, idB}
	slices.SortFunc(blobs, func(x, y api.Digest) int { return strings.Compare(string(x[:]), string(y[:])) })
	if !slices.Equal(h.Blobs(), blobs) {
		t.Fatalf("%s", sumsText(h.Blobs()))
	}
	if tree, e := h.Tree(2); e != api.OK || !slices.Equal(tree, layerOf(file("a", "a"), file("b", "b"))) {
		t.Fatalf("%v, %d", tree, int(e))
	}
	for _, node := range []int{math.MinInt, -1, 0, 4, 7, math.MaxInt} {
		part, isRoot := h.Part(node)
		tree, e := h.Tree(node)
		if isRoot || fmt.Sprint(part) != fmt.Sprint(api.Part{}) || len(h.Stack(node)) != 0 || len(tree) != 0 || e != api.ErrArg {
			t.Fatalf("node %d: %v, %v, %v, %d", node, part, isRoot, tree, int(e))
		}
	}
}

// What is down tells nothing, and all others what they told.
func TestToldBesideOfWhatIsDown(t *testing.T) {
	begin := func() *Host {
		h := installed(t)
		asked(t, h, ask(1, simple(1, "q")))
		must(t, h, deliverDown(1, 0), take(1))
		return h
	}
	pin := api.Hold{Root: 1, Txn: txn(1, 1, 2)}
	for set := range 16 {
		h, whole := begin(), begin()
		isDown := map[int]bool{}
		for i, node := range []int{0, 1, 2, 7} {
			if set>>i&1 == 1 {
				isDown[node] = true
				must(t, h, crash(node))
			}
		}
		for _, node := range []int{0, 1, 2, 7} {
			if h.Up(node) == isDown[node] {
				t.Fatalf("%v: node %d is up: %v", isDown, node, h.Up(node))
			}
		}
		if isDown[0] && len(h.Order())+len(h.Must())+len(h.Open()) > 0 || !isDown[0] && (!slices.Equal(h.Order(), whole.Order()) || !slices.Equal(h.Open(), []int{txn(1, 1, 2)}) || packsTexts(h.Must()) != packsTexts(whole.Must())) {
			t.Fatalf("%v: %s", isDown, looks(h))
		}
		if isDown[7] && len(h.Blobs())+len(h.Holds())+len(h.Held(pin)) > 0 || !isDown[7] && (len(h.Blobs()) != 2 || len(h.Holds()) != 3 || len(h.Held(pin)) != 2) {
			t.Fatalf("%v: %s", isDown, looks(h))
		}
		for root := 1; root <= 2; root++ {
			part, ok := h.Part(root)
			tree, e := h.Tree(root)
			if ok == isDown[root] || isDown[root] && (part.Root != 0 || len(h.Stack(root)) != 0) || !isDown[root] && (part.Root != root || len(part.Done) != 1 || len(h.Stack(root)) != 1) {
				t.Fatalf("%v: %s", isDown, looks(h))
			}
			if want := isDown[root] || isDown[7]; want && (e != api.ErrDown || len(tree) != 0) || !want && (e != api.OK || len(tree) != 1) {
				t.Fatalf("%v: root %d shows %v, %d", isDown, root, tree, int(e))
			}
		}
		if tree, e := h.Tree(0); len(tree) != 0 || e != api.ErrArg {
			t.Fatalf("%v, %d", tree, int(e))
		}
	}
}

func TestToldBesideOfNoHost(t *testing.T) {
	for _, h := range []*Host{nil, {}} {
		for node := -1; node <= 8; node++ {
			part, ok := h.Part(node)
			tree, e := h.Tree(node)
			if h.Up(node) || ok || fmt.Sprint(part) != fmt.Sprint(api.Part{}) || len(h.Stack(node)) != 0 || len(tree) != 0 || e != api.ErrNil {
				t.Fatalf("node %d of no host", node)
			}
		}
		if len(h.Order())+len(h.Must())+len(h.Blobs())+len(h.Holds())+len(h.Held(api.Hold{}))+len(h.Held(api.Hold{Root: 1}))+len(h.Open()) != 0 || h.Quiet() {
			t.Fatal("no host tells something")
		}
	}
}

// Each thing that speaks against it, alone.
func TestQuiet(t *testing.T) {
	loud := func(why string, change func(h *Host)) {
		t.Helper()
		h := installed(t)
		change(h)
		if h.Quiet() {
			t.Fatalf("%s: it is quiet: %s", why, looks(h))
		}
	}
	for _, node := range []int{0, 1, 2, 7} {
		loud("a node is down", func(h *Host) { must(t, h, crash(node)) })
		h := installed(t)
		must(t, h, crash(node), start(node), sweep(), tick(0), tick(1), tick(2), fuse(node, 5))
		if !h.Quiet() {
			t.Fatalf("it is not quiet: %s", looks(h))
		}
	}
	for root := 1; root <= 2; root++ {
		down, up := api.Msg{Kind: api.MsAbort, To: root, Txn: 9}, api.Msg{Kind: api.MsAck, From: root, Txn: 9}
		loud("a message is under way to a root", func(h *Host) { h.net.Send(down) })
		loud("a message is under way to the coordinator", func(h *Host) { h.net.Send(up) })
		loud("a message is in a root's box", func(h *Host) { h.net.Send(down); must(t, h, deliverDown(root, 0)) })
		loud("a message is in the coordinator's box", func(h *Host) { h.net.Send(up); must(t, h, deliverUp(root, 0)) })
		loud("one is staged", func(h *Host) { h.bases[root].Stage(9, nil) })
		loud("one is held for", func(h *Host) { h.store.Hold(api.Hold{Root: root, Txn: 1}, nil) })
	}
	loud("one is open", func(h *Host) { h.boss.machine.Begin(9, []api.Plan{{Root: 1}}) })
	loud("one is open, and committed", func(h *Host) { h.boss.machine.Recall(9, []int{2}) })
	h := installed(t)
	h.net.Send(api.Msg{Kind: api.MsAbort, To: 1, Txn: 9})
	play(t, h, told(round(), 1, ""))
	if !h.Quiet() {
		t.Fatal(looks(h))
	}
}

// Memory

// spoil changes all of a list, and what lies behind its length.
func spoil[T any](l []T, with T) {
	l = l[:cap(l)]
	for i := range l {
		l[i] = with
	}
}

func spoilStacks(l [][]api.Pack) {
	for _, stack := range l {
		for _, p := range stack {
			spoil(p.Man.Layers, api.Ref{Size: 99})
		}
		spoil(stack, api.Pack{Owner: 99})
	}
	spoil(l, nil)
}

// full is a host that has something of everything, and another one to which the same befell.
func full(t *testing.T) (h, other *Host) {
	t.Helper()
	begin := func() *Host {
		h := begun(t, genesis(3, rich(1, 1, 2, 3)))
		asked(t, h, ask(1, install(1, "p", "1", layerOf(dir("d"), file("d/e", "f"), file("d/g", "h")), layerOf(file("x", "y"))), simple(2, "q"), simple(1, "r")))
		rounds(t, h)
		asked(t, h, ask(1, simple(1, "q")))
		asked(t, h, ask(1, simple(2, "s"), remove(2, "q")))
		must(t, h, deliverDown(1, 0), take(1), tick(0))
		return h
	}
	return begin(), begin()
}

func TestWhatIsToldIsNew(t *testing.T) {
	h, other := full(t)
	for range 2 {
		spoil(h.Order(), 99)
		spoil(h.Open(), 99)
		spoilStacks(h.Must())
		for node := range 8 {
			part, _ := h.Part(node)
			spoil(part.Done, 99)
			spoilStacks([][]api.Pack{h.Stack(node)})
			tree, _ := h.Tree(node)
			spoil(tree, file("spoilt", ""))
		}
		for _, x := range h.Holds() {
			spoil(h.Held(x), api.Digest{})
		}
		spoil(h.Holds(), api.Hold{Root: 99})
		spoil(h.Blobs(), api.Digest{})
		for _, s := range []api.Step{list(1, 1, ""), list(1, 1, "d"), look(1, 1, "d"), round()} {
			x, y := h.Do(s), other.Do(s)
			if !sameTold(x, y) {
				t.Fatalf("%s: %s, want %s", stepText(s), tellOf(x), tellOf(y))
			}
			spoil(x.Names, "spoilt")
		}
		if looks(h) != looks(other) || brief(h) != brief(other) {
			t.Fatalf("what was told was changed:\n%s\nwant\n%s", looks(h), looks(other))
		}
	}
}

// What was told stays, whatever befalls later.
func TestWhatWasToldStays(t *testing.T) {
	h, other := full(t)
	order, open, must1, stack, holds, blobs := h.Order(), h.Open(), h.Must(), h.Stack(1), h.Holds(), h.Blobs()
	part, _ := h.Part(1)
	tree, _ := h.Tree(1)
	held := h.Held(holds[0])
	names := h.Do(list(1, 1, "d")).Names
	for range 5 {
		must(t, h, round(), sweep())
	}
	asked(t, h, ask(1, remove(1, "p"), simple(1, "z")))
	rounds(t, h)
	must(t, h, sweep(), crash(0), crash(1), crash(7))
	otherPart, _ := other.Part(1)
	otherTree, _ := other.Tree(1)
	if !slices.Equal(order, other.Order()) || !slices.Equal(open, other.Open()) || packsTexts(must1) != packsTexts(other.Must()) || packsText(stack) != packsText(other.Stack(1)) || !slices.Equal(holds, other.Holds()) || !slices.Equal(blobs, other.Blobs()) || fmt.Sprint(part) != fmt.Sprint(otherPart) || !slices.Equal(tree, otherTree) || !slices.Equal(held, other.Held(holds[0])) || !slices.Equal(names, []string{"e", "g"}) {
		t.Fatal("what was told was changed")
	}
}

// The lists of one answer share no memory with one another.
func TestListsOfOneAnswer(t *testing.T) {
	h := begun(t, genesis(2, rich(1, 1, 2)))
	l := [][]api.Entry{layerOf(file("a", "b")), layerOf(file("c", "d"))}
	asked(t, h, ask(1, install(1, "p", "1", l...), install(1, "q", "1", l...), install(2, "p", "1", l...)))
	rounds(t, h)
	for _, tell := range []func() [][]api.Pack{h.Must, func() [][]api.Pack { return [][]api.Pack{h.Stack(1), h.Stack(2)} }} {
		want, got := tell(), tell()
		spoil(got[0][0].Man.Layers, api.Ref{Size: 99})
		_ = append(got[0][1].Man.Layers, api.Ref{Size: 99})
		got[0][0] = want[0][0]
		if packsTexts(got) != packsTexts(want) {
			t.Fatalf("%s, want %s", packsTexts(got), packsTexts(want))
		}
		_ = append(got[0], api.Pack{Owner: 99})
		if packsTexts(got) != packsTexts(want) {
			t.Fatalf("%s, want %s", packsTexts(got), packsTexts(want))
		}
	}
	steps := []api.Step{list(1, 1, ""), list(1, 1, ""), list(1, 2, "")}
	got, _ := Run(genesis(2, rich(1, 1, 2)), append([]api.Step{ask(1, install(1, "p", "1", l...), install(2, "p", "1", l...)), round(), round()}, steps...))
	spoil(got[3].Names, "spoilt")
	if !slices.Equal(got[4].Names, []string{"a", "c"}) || !slices.Equal(got[5].Names, []string{"a", "c"}) {
		t.Fatalf("%v", got)
	}
}

// roomy is a list with something behind its length.
func roomy[T any](l []T, behind T) []T {
	return append(slices.Clone(l), behind, behind, behind)[:len(l)]
}

// memory is all of a list, and what lies behind its length.
func memory[T any](l []T) string { return fmt.Sprintf("%v", l[:cap(l)]) }

func TestWhatIsHandedInIsNotKept(t *testing.T) {
	g := genesis(2, tenant(1, 100, 2), rich(2, 1))
	g.Tenants = roomy(g.Tenants, tenant(1, 5))
	g.Tenants[0].Roots = roomy(g.Tenants[0].Roots, 1)
	ahead := memory(g.Tenants) + memory(g.Tenants[0].Roots)
	h := begun(t, g)
	if got := memory(g.Tenants) + memory(g.Tenants[0].Roots); got != ahead {
		t.Fatalf("%s, want %s", got, ahead)
	}
	spoil(g.Tenants[0].Roots, 1)
	spoil(g.Tenants, tenant(3, 7, 1, 2))
	tells(t, h, list(1, 1, ""), refused(api.ErrDenied))
	tells(t, h, list(1, 2, ""), api.Told{})
	tells(t, h, used(3), refused(api.ErrNone))

	entries := roomy(layerOf(file("a", "b"), file("c", "d")), file("A", ""))
	layers := roomy([][]api.Entry{entries}, layerOf(file("A", "")))
	wants := roomy([]api.Want{install(2, "p", "1", layers...)}, simple(1, "q"))
	wants[0].Layers = layers
	texts := func() string { return memory(entries) + memory(layers) + memory(wants) }
	for _, s := range []api.Step{ask(3, wants...), {Kind: api.StAsk, Tenant: 2, Wants: wants}, {Kind: api.StAsk, Tenant: 1, Wants: wants}, {Kind: api.StAsk, Tenant: 1, Wants: wants}} {
		ahead := texts()
		h.Do(s)
		if got := texts(); got != ahead {
			t.Fatalf("%s, want %s", got, ahead)
		}
	}
	spoil(entries, file("z", "z"))
	spoil(layers, nil)
	spoil(wants, simple(1, "z"))
	rounds(t, h)
	keep := roomy([]int{1, 2}, 9)
	ahead = memory(keep)
	must(t, h, fuse(7, 1))
	h.Do(ask(1, simple(2, "q")))
	must(t, h, crash(7, keep...), api.Step{Kind: api.StCrash, Node: 7, Keep: keep}, start(7))
	if memory(keep) != ahead {
		t.Fatalf("%s, want %s", memory(keep), ahead)
	}
	tells(t, h, list(1, 2, ""), api.Told{Names: []string{"a", "c"}})
	tells(t, h, look(1, 2, "c"), api.Told{Entry: file("c", "d")})
	if got := stackNames(h.Stack(2)); got != "p-1" {
		t.Fatal(got)
	}
	must(t, h, crash(0), start(0))
	if got := packsText(h.Must()[1]); got != packsText(h.Stack(2)) || len(rootdb.Sums(h.Stack(2))) != 1 {
		t.Fatal(got)
	}

	steps := roomy([]api.Step{ask(1, simple(2, "p")), round()}, sweep())
	ahead = memory(steps)
	got, _ := Run(genesis(2, rich(1, 2)), steps)
	if memory(steps) != ahead || len(got) != 2 {
		t.Fatalf("%s, want %s; %v", memory(steps), ahead, got)
	}
}

// Two hosts have nothing in common.
func TestHostsAreApart(t *testing.T) {
	h, other := full(t)
	ahead := looks(other) + brief(other)
	must(t, h, round(), round(), crash(0), crash(1), crash(2), crash(7), start(0), start(7), sweep(), ask(1, simple(3, "x")))
	if got := looks(other) + brief(other); got != ahead {
		t.Fatalf("%s, want %s", got, ahead)
	}
}
