package host

import (
	"fmt"
	"math/rand"
	"slices"
	"testing"

	"veneer/api"
	"veneer/layer"
	"veneer/overlay"
	"veneer/rootdb"
)

// witness looks on while steps befall a host, and finds out what the promises of the whole (T1 to T5) rule out. It knows each request that was taken, and what was told last of each node, as long as that was up.
type witness struct {
	g      api.Genesis
	h      *Host
	ever   map[int]*wish
	layers map[api.Digest][]api.Entry
	order  []int
	done   [7][]int
	staged [7]int
	stacks [7][]api.Pack
	grow   bool // no request takes bytes away
	did    string
}

func newWitness(t *testing.T, g api.Genesis) *witness {
	t.Helper()
	return &witness{g: g, h: begun(t, g), ever: map[int]*wish{}, layers: map[api.Digest][]api.Entry{}, did: fmt.Sprintf("%+v", g)}
}

func (w *witness) fail(t *testing.T, format string, args ...any) {
	t.Helper()
	t.Fatalf("%s\n%s\n%s", last(w.did), fmt.Sprintf(format, args...), looks(w.h))
}

// do does a step, and looks whether all may be as it is then.
func (w *witness) do(t *testing.T, s api.Step) api.Told {
	t.Helper()
	x := w.h.Do(s)
	w.did += "\n" + stepText(s) + " = " + tellOf(x)
	if s.Kind == api.StAsk && x.Err == api.OK {
		w.taken(t, s, x.N)
	}
	w.look(t)
	return x
}

// taken keeps a request that was taken.
func (w *witness) taken(t *testing.T, s api.Step, txn int) {
	t.Helper()
	if w.ever[txn] != nil {
		w.fail(t, "number %d was told twice", txn)
	}
	x := &wish{tenant: s.Tenant}
	for _, want := range s.Wants {
		op := api.Op{Kind: want.Kind, Root: want.Root, Name: want.Name, Version: want.Version}
		for _, l := range want.Layers {
			sum, _ := layer.Id(l)
			op.Layers = append(op.Layers, api.Ref{Sum: sum, Size: layer.Size(l)})
			w.layers[sum] = slices.Clone(l)
		}
		x.ops = append(x.ops, op)
	}
	w.ever[txn] = x
}

func hasBeginning(l, beginning []int) bool {
	return len(l) >= len(beginning) && slices.Equal(l[:len(beginning)], beginning)
}

// at are those that touch a root, in order.
func (w *witness) at(root int, order []int) []int {
	var out []int
	for _, txn := range order {
		if slices.Contains(w.ever[txn].roots(), root) {
			out = append(out, txn)
		}
	}
	return out
}

func (w *witness) look(t *testing.T) {
	t.Helper()
	if w.h.Up(0) {
		w.lookAtBook(t)
	}
	for root := 1; root <= w.g.Roots; root++ {
		if w.h.Up(root) {
			w.lookAtRoot(t, root)
		}
	}
	if w.grow {
		w.lookAtQuotas(t)
	}
}

// lookAtQuotas looks whether what the roots have is within the quotas.
func (w *witness) lookAtQuotas(t *testing.T) {
	t.Helper()
	for _, x := range w.g.Tenants {
		n := 0
		for _, stack := range w.stacks {
			n += bytesOf(stack, x.Id)
		}
		if n > x.Quota {
			w.fail(t, "tenant %d has %d bytes", x.Id, n)
		}
	}
}

func (w *witness) lookAtBook(t *testing.T) {
	t.Helper()
	order := w.h.Order()
	if !hasBeginning(order, w.order) {
		w.fail(t, "the order was %v", w.order)
	}
	w.order = order
	for i, txn := range order {
		if w.ever[txn] == nil || slices.Contains(order[:i], txn) {
			w.fail(t, "%d is in the book", txn)
		}
	}
	must := w.h.Must()
	if packsTexts(must) != packsTexts(replayed(w.ever, order)) {
		w.fail(t, "the book says %s", packsTexts(must))
	}
	for _, x := range w.g.Tenants {
		n := 0
		for _, stack := range must {
			n += bytesOf(stack, x.Id)
		}
		if n > x.Quota || w.h.Do(used(x.Id)).N != n {
			w.fail(t, "tenant %d has %d bytes in the book, and is told %s", x.Id, n, tellOf(w.h.Do(used(x.Id))))
		}
	}
}

func packsTexts(l [][]api.Pack) string {
	out := ""
	for _, stack := range l {
		out += " /" + packsText(stack)
	}
	return out
}

func (w *witness) lookAtRoot(t *testing.T, root int) {
	t.Helper()
	p, _ := w.h.Part(root)
	if !hasBeginning(p.Done, w.done[root]) {
		w.fail(t, "root %d had committed %v", root, w.done[root])
	}
	if w.h.Up(0) && !hasBeginning(w.at(root, w.order), p.Done) {
		w.fail(t, "root %d has committed what the book has not, or in another order", root)
	}
	if txn := w.staged[root]; slices.Contains(w.order, txn) && p.Staged != txn && !slices.Contains(p.Done, txn) {
		w.fail(t, "root %d has given up %d", root, txn)
	}
	stack := w.h.Stack(root)
	if want := replayedAt(root, w.ever, p.Done); packsText(stack) != packsText(want) {
		w.fail(t, "root %d must have %s", root, packsText(want))
	}
	_, wants := w.h.bases[root].Staged()
	for _, x := range slices.Concat(stack, wants) {
		if i := slices.IndexFunc(w.g.Tenants, func(t api.Tenant) bool { return t.Id == x.Owner }); i < 0 || !slices.Contains(w.g.Tenants[i].Roots, root) {
			w.fail(t, "root %d has, or has staged, a package of tenant %d", root, x.Owner)
		}
	}
	if w.h.Up(7) {
		w.lookAtStore(t, root, p, stack, wants)
	}
	w.done[root], w.staged[root], w.stacks[root] = p.Done, p.Staged, stack
}

// lookAtStore looks whether all that a root has, and all that is staged there and may be committed, is stored and held.
func (w *witness) lookAtStore(t *testing.T, root int, p api.Part, stack, wants []api.Pack) {
	t.Helper()
	var l [][]api.Entry
	for _, x := range rootdb.Sums(stack) {
		l = append(l, w.layers[x])
	}
	want, _ := overlay.Merge(l)
	if tree, e := w.h.Tree(root); e != api.OK || !slices.Equal(tree, want) {
		w.fail(t, "root %d shows %v, %d, and must show %v", root, tree, int(e), want)
	}
	isOpen := slices.Contains(w.h.Open(), p.Staged) || slices.Contains(w.order, p.Staged)
	if held := w.h.Held(api.Hold{Root: root, Txn: p.Staged}); p.Staged > 0 && isOpen && !slices.Equal(held, rootdb.Sums(wants)) {
		w.fail(t, "for %d is held%s, and must be%s", p.Staged, sumsText(held), sumsText(rootdb.Sums(wants)))
	}
}

// enough rounds are so many, whatever befell ahead of them: the first ones take what fills links and boxes, so that answers can go out again; then who is staged for nothing hears of it, all vote, commit, and acknowledge.
const enough = 5

// standUp brings up all that is down, and takes fuses away.
func (w *witness) standUp(t *testing.T, nodes ...int) {
	t.Helper()
	for _, node := range nodes {
		w.do(t, crash(node))
		if x := w.do(t, start(node)); x.Err != api.OK {
			w.fail(t, "node %d does not stand up", node)
		}
	}
}

// end lets all stand up, and messages arrive: then all is decided, and nothing is left.
func (w *witness) end(t *testing.T) {
	t.Helper()
	for _, node := range w.h.nodes() {
		if !w.h.Up(node) {
			w.standUp(t, node)
		}
		w.do(t, fuse(node, 1<<40))
	}
	for range enough {
		w.do(t, round())
	}
	if !w.h.Quiet() || len(w.h.Open()) > 0 {
		w.fail(t, "it is not quiet")
	}
	sums := map[api.Digest]bool{}
	for root := 1; root <= w.g.Roots; root++ {
		p, _ := w.h.Part(root)
		if p.Staged != 0 || !slices.Equal(p.Done, w.at(root, w.order)) || packsText(w.h.Stack(root)) != packsText(w.h.Must()[root-1]) {
			w.fail(t, "root %d has not all, or too much", root)
		}
		for _, x := range rootdb.Sums(w.h.Stack(root)) {
			sums[x] = true
		}
		if held := w.h.Held(api.Hold{Root: root}); !slices.Equal(held, rootdb.Sums(w.h.Stack(root))) {
			w.fail(t, "for root %d is held%s", root, sumsText(held))
		}
	}
	for _, x := range w.h.Holds() {
		if x.Txn > 0 {
			w.fail(t, "a pin is left: %v", x)
		}
	}
	ahead := len(w.h.Blobs())
	x := w.do(t, sweep())
	blobs := w.h.Blobs()
	if x.Err != api.OK || x.N != ahead-len(blobs) || len(blobs) != len(sums) || slices.ContainsFunc(blobs, func(x api.Digest) bool { return !sums[x] }) {
		w.fail(t, "behind the sweep the store has %d blobs, of %d", len(blobs), len(sums))
	}
	w.lookAtQuotas(t)
}

// TestTheWholeByChance lets anything befall hosts with room enough, in any order.
func TestTheWholeByChance(t *testing.T) {
	t.Parallel()
	count := [3]int{}
	for seed := range 500 {
		r := rand.New(rand.NewSource(int64(seed)))
		c := pick(&chance{Rand: r}, calm, stormy, stormy)(r)
		c.grow = r.Intn(3) == 0
		w := newWitness(t, c.genesis(3000))
		w.grow = c.grow
		for range 150 {
			w.do(t, c.step(w.g, w.h))
		}
		w.end(t)
		count[0], count[1] = count[0]+len(w.ever), count[1]+len(w.order)
		for _, x := range w.ever {
			if len(x.roots()) > 1 {
				count[2]++
			}
		}
	}
	if testing.Verbose() {
		t.Log("taken, committed, of several roots:", count)
	}
}

// TestTheWholeOnFullDisks lets anything befall hosts whose disks run full: what may never be is not then either, but the end may not come.
func TestTheWholeOnFullDisks(t *testing.T) {
	for seed := range 150 {
		r := rand.New(rand.NewSource(int64(seed)))
		c := pick(&chance{Rand: r}, calm, stormy, stormy)(r)
		w := newWitness(t, c.genesis(64, 70, 80, 100))
		for range 200 {
			w.do(t, c.step(w.g, w.h))
		}
	}
}

// tale is a script in which something of everything happens to two roots and two tenants.
func tale() []api.Step {
	return []api.Step{
		ask(1, simple(1, "p"), simple(2, "p")),
		round(),
		ask(2, install(3, "q", "1", layerOf(file("p", "p")), wide("w", 2))),
		round(),
		round(),
		ask(1, upgrade(1, "p", "2", layerOf(dir("d"), file("d/e", "f"))), remove(2, "p"), install(2, "r", "1", wide("v", 1))),
		deliverDown(1, 0), take(1), deliverUp(1, 0), take(0),
		ask(2, remove(3, "q")),
		deliverDown(2, 0), deliverDown(3, 0), take(3), take(2), tick(3), deliverUp(3, 0), take(0), deliverUp(2, 0), take(0),
		deliverDown(1, 0), take(1), tick(1), deliverUp(1, 0), take(0),
		tick(0),
		ask(1, simple(2, "x")), // it is busy
		sweep(),
		round(),
		ask(1, remove(1, "p"), simple(2, "p")),
		tick(0),
		round(),
		round(),
		sweep(),
		ask(2, simple(3, "p")),
		ask(1, simple(1, "z")),
		round(),
	}
}

// keeps are choices of what is kept of what waits.
func keeps() [][]int {
	return [][]int{nil, {1, 1, 1, 1, 1, 1, 1, 1, 1, 1, 1, 1}, {1}, {0, 1}, {0, 1, 0, 1, 0, 1, 0, 1}, {1, 0, 1, 0, 1, 0, 1, 0}, {0, 0, 1, 1, 1, 1}}
}

func taleGenesis() api.Genesis {
	g := genesis(3, rich(1, 1, 2), rich(2, 3))
	g.Blocks = 300
	return g
}

// TestEachLossOfPower lets each node lose its power at each of its writes while the tale is told, and whenever it stands up again.
func TestEachLossOfPower(t *testing.T) {
	t.Parallel()
	h := begun(t, taleGenesis())
	ahead := map[int]int{}
	for _, node := range h.nodes() {
		ahead[node] = h.disks[node].Done()
	}
	for _, s := range tale() {
		h.Do(s)
	}
	for _, node := range h.nodes() {
		writes := h.disks[node].Done() - ahead[node]
		if writes < 10 {
			t.Fatalf("node %d writes %d times alone", node, writes)
		}
		for n := range writes {
			for i, keep := range keeps() {
				taleWithLoss(t, node, n, keep, -1)
				if i < 2 {
					for again := range 4 {
						taleWithLoss(t, node, n, keep, again)
					}
				}
			}
		}
	}
}

// taleWithLoss lets n writes of a node through, then it goes down, and stands up: of the writes of its standing up `again` ones are let through, if that is not below 0.
func taleWithLoss(t *testing.T, node, n int, keep []int, again int) {
	t.Helper()
	w := newWitness(t, taleGenesis())
	w.do(t, fuse(node, n))
	for _, s := range tale() {
		w.do(t, s)
		if w.h.Up(node) {
			continue
		}
		w.do(t, crash(node, keep...))
		if again >= 0 {
			w.do(t, fuse(node, again))
		}
		x := w.do(t, start(node))
		if x.Err == api.ErrDown && again >= 0 {
			w.do(t, crash(node, keep...))
			x = w.do(t, start(node))
		}
		if x.Err != api.OK {
			w.fail(t, "node %d does not stand up", node)
		}
	}
	w.end(t)
}

// TestEachNodeDown lets each node be down from each step of the tale on, for some steps, without anything lost on its disk.
func TestEachNodeDown(t *testing.T) {
	t.Parallel()
	for _, node := range []int{0, 1, 2, 3, 7} {
		for from := range tale() {
			for steps := range 12 {
				w := newWitness(t, taleGenesis())
				for i, s := range tale() {
					switch i {
					case from:
						w.do(t, crash(node))
					case from + steps:
						w.do(t, start(node))
					}
					w.do(t, s)
				}
				w.end(t)
			}
		}
	}
}

// TestEachLoss loses, or doubles, each message of the tale, as long as it is under way.
func TestEachLoss(t *testing.T) {
	for _, kind := range []int{api.StDrop, api.StDouble} {
		for i := range 6 {
			for from := range tale() {
				w := newWitness(t, taleGenesis())
				for k, s := range tale() {
					if k == from {
						w.do(t, api.Step{Kind: kind, Root: 1 + i/2, Down: i%2 == 0})
					}
					w.do(t, s)
				}
				w.end(t)
			}
		}
	}
}

// TestNothingLost lets no power, and no message, be lost: each request that is taken is committed at all its roots.
func TestNothingLost(t *testing.T) {
	for seed := range 60 {
		r := rand.New(rand.NewSource(int64(seed)))
		c := &chance{Rand: r, asks: 600, rounds: 200, sweeps: 100, wrong: 5}
		w := newWitness(t, c.genesis(3000))
		for range 60 {
			w.do(t, c.step(w.g, w.h))
		}
		w.end(t)
		if len(w.order) != len(w.ever) {
			w.fail(t, "%d are committed, %d were taken", len(w.order), len(w.ever))
		}
	}
}

// TestFullLinks begins the end with as many messages as may be, under way and in boxes, of a transaction that is given up and one that is not.
func TestFullLinks(t *testing.T) {
	w := newWitness(t, genesis(2, rich(1, 1, 2)))
	fill := func(root int, down bool) {
		to := 0
		if down {
			to = root
		}
		for n := 0; w.do(t, api.Step{Kind: api.StDouble, Root: root, Down: down}).Err == api.OK; n++ {
			if n%2 == 0 {
				w.do(t, api.Step{Kind: api.StDeliver, Root: root, Down: down})
			}
		}
		if len(w.h.net.Box(to)) < 40 && down {
			w.fail(t, "the box is not full")
		}
		for w.do(t, api.Step{Kind: api.StDeliver, Root: root, Down: down}).Err == api.OK {
			w.do(t, api.Step{Kind: api.StDouble, Root: root, Down: down})
		}
		for w.do(t, api.Step{Kind: api.StDouble, Root: root, Down: down}).Err == api.OK {
		}
		if len(w.h.net.Box(to)) != 64 || down && len(w.h.net.Link(0, root)) != 64 || !down && len(w.h.net.Link(root, 0)) != 64 {
			w.fail(t, "it is not full")
		}
	}
	w.do(t, ask(1, simple(1, "p"), simple(2, "p")))
	w.do(t, deliverDown(1, 0))
	w.do(t, take(1))
	fill(2, true)
	fill(1, false)
	w.standUp(t, 0)
	w.do(t, ask(1, simple(1, "q"), simple(2, "q")))
	fill(1, true)
	w.do(t, take(2))
	fill(2, true)
	fill(1, false)
	w.end(t)
}

// TestTenantsAreApart is told by chance what two tenants do who share no root, with what the second one asks for and without: the first one must be told the same.
func TestTenantsAreApart(t *testing.T) {
	told := 0
	for seed := range 250 {
		r := rand.New(rand.NewSource(int64(seed)))
		c := &chance{Rand: r, wrong: 5}
		g := api.Genesis{Roots: 4, Limit: 1 + r.Intn(3), Blocks: 3000}
		g.Tenants = []api.Tenant{tenant(1, pick(c, 1<<40, 300, 30), 1, 3), tenant(2, pick(c, 1<<40, 300, 30), 2, 4)}
		with, without := begun(t, g), begun(t, g)
		var did string
		for range 120 {
			s := c.apartStep(g, with)
			x := with.Do(s)
			did += "\n" + stepText(s) + " = " + tellOf(x)
			isOther := s.Kind == api.StAsk && s.Tenant == 2
			if isOther {
				continue
			}
			y := without.Do(s)
			if s.Tenant == 1 {
				told++
				if !sameTold(x, y) {
					t.Fatalf("%s\nwithout what the other one asks for: %s", last(did), tellOf(y))
				}
			}
		}
		for _, root := range []int{1, 3} {
			if a, b := packsText(with.Stack(root)), packsText(without.Stack(root)); a != b {
				t.Fatalf("%s\nroot %d has %s, and without what the other one asks for %s", last(did), root, a, b)
			}
		}
	}
	if told < 5000 {
		t.Fatalf("only %d answers were looked at", told)
	}
}

// apartStep is one that drives both tenants' transactions alike: the coordinator takes all that is in its box, or nothing, and fuses burn at roots alone.
func (c *chance) apartStep(g api.Genesis, h *Host) api.Step {
	switch n := c.Intn(100); {
	case n < 30:
		return c.ask(g, h)
	case n < 45:
		return c.onlook(g, h)
	case n < 60:
		return round()
	case n < 65:
		return tick(c.Intn(5))
	case n < 75:
		return api.Step{Kind: pick(c, api.StDeliver, api.StDrop, api.StDouble), Root: 1 + c.Intn(4), Down: c.Intn(2) == 0}
	case n < 80:
		return take(1 + c.Intn(4))
	case n < 84:
		return crash(pick(c, 0, 1, 2, 3, 4, 7))
	case n < 92:
		return start(pick(c, 0, 1, 2, 3, 4, 7))
	case n < 96:
		return fuse(1+c.Intn(4), c.Intn(20))
	}
	return sweep()
}

// TestTheSameAgain lets Run do what Do did, twice.
func TestTheSameAgain(t *testing.T) {
	for seed := range 60 {
		r := rand.New(rand.NewSource(int64(seed)))
		c := stormy(r)
		g := c.genesis(80, 200, 1000)
		h := begun(t, g)
		var steps []api.Step
		var want []api.Told
		for range 120 {
			steps = append(steps, c.step(g, h))
			want = append(want, h.Do(steps[len(steps)-1]))
		}
		for range 2 {
			got, e := Run(g, steps)
			if e != api.OK || !slices.EqualFunc(got, want, sameTold) {
				t.Fatalf("seed %d: Run answers %v, %d, want %v", seed, got, int(e), want)
			}
		}
	}
}
