package host

import (
	"fmt"
	"slices"
	"testing"

	"veneer/api"
	"veneer/blob"
	"veneer/book"
	"veneer/coord"
	"veneer/disk"
	"veneer/layer"
	"veneer/part"
	"veneer/plan"
	"veneer/rootdb"
	"veneer/view"
	"veneer/wire"
)

// wish is what was asked for under a number; reserves is let go when that is done, or given up, or forgotten in a crash.
type wish struct {
	tenant, reserves int
	ops              []api.Op
}

// roots are those that it names, rising.
func (w wish) roots() []int {
	var out []int
	for root := 1; root <= 6; root++ {
		if slices.ContainsFunc(w.ops, func(op api.Op) bool { return op.Root == root }) {
			out = append(out, root)
		}
	}
	return out
}

// model is what a host must be, by the chapter's words, as one knows it who has looked on from the beginning: he knows of all wishes that there were. It has disks of its own, on which it does by the layers below what the chapter asks for.
type model struct {
	g     api.Genesis
	disks [8]*disk.Disk // those of nodes that are none stay nil
	net   *wire.Net
	book  *book.Book
	coord *coord.Coord
	roots [8]*rootdb.DB
	store *blob.Store
	up    [8]bool
	ever  map[int]*wish
}

func newModel(t *testing.T, g api.Genesis) *model {
	t.Helper()
	m := &model{g: g, net: wire.New(), ever: map[int]*wish{}}
	for _, node := range m.nodes() {
		m.disks[node], _ = disk.New(g.Blocks)
		if e := m.start(node); e != api.OK {
			t.Fatalf("node %d: %d", node, int(e))
		}
	}
	return m
}

func (m *model) nodes() []int {
	var out []int
	for node := 0; node <= m.g.Roots; node++ {
		out = append(out, node)
	}
	return append(out, 7)
}

func (m *model) is(node int) bool { return slices.Contains(m.nodes(), node) }

func (m *model) Up(node int) bool { return m.is(node) && m.up[node] }

func (m *model) down(node int) {
	m.up[node] = false
	m.net.Clear(node)
	if node == 0 {
		for _, w := range m.ever {
			w.reserves = 0
		}
	}
}

// did takes the answer of a call on a node's disk.
func (m *model) did(node int, e api.Errno) api.Errno {
	if e == api.ErrDown {
		m.down(node)
	}
	return e
}

func (m *model) start(node int) api.Errno {
	var e api.Errno
	switch node {
	case 0:
		m.book, e = book.Open(m.disks[0])
		if e == api.OK {
			m.coord = coord.New(m.g.Limit)
			for _, txn := range m.book.Left() {
				out, why := m.coord.Recall(txn, m.ever[txn].roots())
				if why != api.OK {
					panic(why)
				}
				m.send(out)
			}
		}
	case 7:
		m.store, e = blob.Open(m.disks[7])
	default:
		m.roots[node], e = rootdb.Open(m.disks[node])
	}
	m.up[node] = e == api.OK
	return e
}

func (m *model) send(l []api.Msg) {
	for _, x := range l {
		m.net.Send(x)
	}
}

// stacks are what the wishes that are written down make of empty ones.
func (m *model) stacks() [][]api.Pack { return replayed(m.ever, m.book.Order()) }

// replayed is what some wishes, which were let through, make of empty stacks, one behind the other.
func replayed(ever map[int]*wish, order []int) [][]api.Pack {
	out := make([][]api.Pack, 6)
	for i := range out {
		out[i] = replayedAt(i+1, ever, order)
	}
	return out
}

// replayedAt is what they make of one root's.
func replayedAt(root int, ever map[int]*wish, order []int) []api.Pack {
	var stack []api.Pack
	for _, txn := range order {
		for _, op := range ever[txn].ops {
			if op.Root != root {
				continue
			}
			at := slices.IndexFunc(stack, func(p api.Pack) bool { return p.Man.Name == op.Name })
			laid := api.Pack{Owner: ever[txn].tenant, Man: api.Manifest{Name: op.Name, Version: op.Version, Layers: op.Layers}}
			switch op.Kind {
			case 1:
				stack = append(stack, laid)
			case 2:
				stack[at] = laid
			case 3:
				stack = slices.Delete(stack, at, at+1)
			}
		}
	}
	return stack
}

// bytesOf are those that a tenant is charged for in a stack.
func bytesOf(stack []api.Pack, tenant int) int {
	n := 0
	for _, p := range stack {
		for _, x := range p.Man.Layers {
			if p.Owner == tenant {
				n += x.Size
			}
		}
	}
	return n
}

func (m *model) tenant(id int) *api.Tenant {
	for i, x := range m.g.Tenants {
		if x.Id == id {
			return &m.g.Tenants[i]
		}
	}
	return nil
}

func (m *model) usedBy(tenant int) int {
	n := 0
	for _, stack := range m.stacks() {
		n += bytesOf(stack, tenant)
	}
	return n
}

func (m *model) ask(id int, wants []api.Want) (int, api.Errno) {
	if !m.up[0] || !m.up[7] {
		return 0, 15
	}
	who := m.tenant(id)
	if who == nil {
		return 0, 9
	}
	for _, w := range wants {
		if !slices.Contains(who.Roots, w.Root) {
			return 0, 16
		}
	}
	var data []string
	x := &wish{tenant: id}
	for _, w := range wants {
		op := api.Op{Kind: w.Kind, Root: w.Root, Name: w.Name, Version: w.Version}
		for _, l := range w.Layers {
			if _, e := layer.Check(l); e != api.OK {
				return 0, e
			}
			b, _ := layer.Encode(l)
			if len(b) > 2048 {
				return 0, 3
			}
			sum, _ := layer.Id(l)
			op.Layers = append(op.Layers, api.Ref{Sum: sum, Size: layer.Size(l)})
			data = append(data, string(b))
		}
		x.ops = append(x.ops, op)
	}
	stacks := m.stacks()
	plans, _, e := plan.All(stacks, id, x.ops)
	if e != api.OK {
		return 0, e
	}
	taken := m.usedBy(id)
	for _, txn := range m.coord.Open() {
		for _, root := range m.ever[txn].roots() {
			if slices.Contains(x.roots(), root) {
				return 0, 10
			}
		}
		if m.ever[txn].tenant == id {
			taken += m.ever[txn].reserves
		}
	}
	for _, p := range plans {
		x.reserves += max(0, bytesOf(p.Packs, id)-bytesOf(stacks[p.Root-1], id))
	}
	if taken+x.reserves > who.Quota {
		return 0, 17
	}
	txn, e := m.book.Next(id)
	if e != api.OK {
		return 0, e
	}
	for _, s := range data {
		if _, e := m.store.Put(s); m.did(7, e) != api.OK {
			return 0, e
		}
	}
	for i, p := range plans {
		if e := m.did(7, m.store.Hold(api.Hold{Root: p.Root, Txn: txn}, rootdb.Sums(p.Packs))); e != api.OK {
			for _, q := range plans[:i] {
				m.free(api.Hold{Root: q.Root, Txn: txn})
			}
			return 0, e
		}
	}
	out, e := m.coord.Begin(txn, plans)
	if e != api.OK {
		panic(e)
	}
	m.ever[txn] = x
	m.send(out)
	return txn, api.OK
}

func (m *model) free(x api.Hold) api.Errno {
	if !m.up[7] {
		return api.ErrDown
	}
	return m.did(7, m.store.Free(x))
}

func (m *model) forget(txn int) {
	m.ever[txn].reserves = 0
	for _, root := range m.ever[txn].roots() {
		m.free(api.Hold{Root: root, Txn: txn})
	}
}

func (m *model) part(root int) api.Part {
	txn, _ := m.roots[root].Staged()
	return api.Part{Root: root, Staged: txn, Done: m.roots[root].Done()}
}

func (m *model) deeds(root int, l []api.Deed) {
	for _, d := range l {
		e := api.OK
		switch {
		case d.Kind == api.DoSettle && !m.up[7]:
			e = api.ErrDown
		case d.Kind == api.DoSettle:
			e = m.did(7, m.store.Turn(api.Hold{Root: root, Txn: d.Txn}))
		case d.Kind == api.DoStage:
			e = m.did(root, m.roots[root].Stage(d.Txn, d.Packs))
		case d.Kind == api.DoCommit:
			e = m.did(root, m.roots[root].Commit(d.Txn))
		case d.Kind == api.DoAbort:
			e = m.did(root, m.roots[root].Abort(d.Txn))
		case d.Kind == api.DoSend:
			m.net.Send(d.Msg)
		}
		if e != api.OK {
			return
		}
	}
}

func (m *model) take(node int) api.Errno {
	if node < 0 || node > m.g.Roots {
		return 2
	}
	if !m.up[node] {
		return 15
	}
	x, ok := m.net.Take(node)
	if !ok {
		return 9
	}
	if node > 0 {
		m.deeds(node, part.Take(m.part(node), x))
		return 0
	}
	said := m.coord.Take(x)
	m.send(said.Out)
	if said.Log > 0 {
		w := m.ever[said.Log]
		if m.did(0, m.book.Log(said.Log, w.tenant, w.ops)) == api.OK {
			w.reserves = 0
			out, _ := m.coord.Sure(said.Log)
			m.send(out)
		} else if m.up[0] {
			out, _ := m.coord.Quit(said.Log)
			m.send(out)
			m.forget(said.Log)
		}
	}
	if said.Gone > 0 {
		m.forget(said.Gone)
	}
	if said.Close > 0 {
		m.did(0, m.book.Close(said.Close))
	}
	return 0
}

func (m *model) tick(node int) api.Errno {
	if node < 0 || node > m.g.Roots {
		return 2
	}
	if !m.up[node] {
		return 15
	}
	if node > 0 {
		m.deeds(node, part.Tick(m.part(node)))
		return 0
	}
	out, gone := m.coord.Tick()
	m.send(out)
	for _, txn := range gone {
		m.forget(txn)
	}
	if !m.up[7] {
		return 0
	}
	for _, x := range m.store.Holds() {
		if x.Txn > 0 && !slices.Contains(m.coord.Open(), x.Txn) && !slices.Contains(m.book.Order(), x.Txn) {
			if m.free(x) != api.OK {
				break
			}
		}
	}
	return 0
}

func (m *model) onWire(s api.Step) api.Errno {
	from, to := s.Root, 0
	if s.Down {
		from, to = 0, s.Root
	}
	switch s.Kind {
	case api.StDrop:
		return m.net.Drop(from, to, s.N)
	case api.StDouble:
		return m.net.Double(from, to, s.N)
	}
	if to >= 0 && to <= m.g.Roots && !m.up[to] {
		return 15
	}
	return m.net.Deliver(from, to, s.N)
}

func (m *model) takesAll(node int) int {
	n := 0
	for m.take(node) == api.OK {
		n++
	}
	return n
}

func (m *model) round() int {
	n := 0
	for root := 1; root <= m.g.Roots; root++ {
		for range m.net.Link(0, root) {
			if m.up[root] {
				m.net.Deliver(0, root, 0)
			}
		}
		n += m.takesAll(root)
		m.tick(root)
		for range m.net.Link(root, 0) {
			if m.up[0] {
				m.net.Deliver(root, 0, 0)
			}
		}
		n += m.takesAll(0)
	}
	m.tick(0)
	return n
}

func (m *model) seen(s api.Step) (*view.View, api.Errno) {
	who := m.tenant(s.Tenant)
	switch {
	case who == nil:
		return nil, 9
	case !slices.Contains(who.Roots, s.Root):
		return nil, 16
	case !m.up[s.Root] || !m.up[7]:
		return nil, 15
	}
	return view.Make(m.roots[s.Root].Stack(), m.store)
}

func (m *model) do(s api.Step) api.Told {
	switch s.Kind {
	case api.StAsk:
		n, e := m.ask(s.Tenant, s.Wants)
		return api.Told{Err: e, N: n}
	case api.StDeliver, api.StDrop, api.StDouble:
		return refused(m.onWire(s))
	case api.StTake:
		return refused(m.take(s.Node))
	case api.StTick:
		return refused(m.tick(s.Node))
	case api.StCrash, api.StStart, api.StFuse:
		switch {
		case !m.is(s.Node):
			return refused(2)
		case s.Kind == api.StCrash:
			m.down(s.Node)
			return refused(m.disks[s.Node].Crash(s.Keep))
		case s.Kind == api.StFuse:
			return refused(m.disks[s.Node].Fuse(s.N))
		case m.up[s.Node]:
			return refused(11)
		}
		return refused(m.start(s.Node))
	case api.StSweep:
		if !m.up[7] {
			return refused(15)
		}
		n, e := m.store.Sweep()
		return api.Told{Err: m.did(7, e), N: n}
	case api.StLook, api.StList:
		v, e := m.seen(s)
		if e != api.OK {
			return refused(e)
		}
		var x api.Told
		if s.Kind == api.StLook {
			x.Entry, x.Err = v.Lookup(s.Path)
		} else {
			x.Names, x.Err = v.List(s.Path)
		}
		return x
	case api.StState, api.StUsed:
		switch {
		case m.tenant(s.Tenant) == nil:
			return refused(9)
		case s.Kind == api.StState && (s.N < 1 || s.N>>17&7+1 != s.Tenant):
			return refused(16)
		case !m.up[0]:
			return refused(15)
		case s.Kind == api.StUsed:
			return number(m.usedBy(s.Tenant))
		case slices.Contains(m.book.Order(), s.N):
			return number(3)
		}
		return number(m.coord.State(s.N))
	case api.StRound:
		return number(m.round())
	}
	return refused(13)
}

// What is told beside: each list of what is down is none.

func (m *model) Order() []int {
	if !m.up[0] {
		return nil
	}
	return m.book.Order()
}

func (m *model) Must() [][]api.Pack {
	if !m.up[0] {
		return nil
	}
	return m.stacks()
}

func (m *model) isUpRoot(root int) bool { return root >= 1 && root <= m.g.Roots && m.up[root] }

func (m *model) Part(root int) (api.Part, bool) {
	if !m.isUpRoot(root) {
		return api.Part{}, false
	}
	return m.part(root), true
}

func (m *model) Stack(root int) []api.Pack {
	if !m.isUpRoot(root) {
		return nil
	}
	return m.roots[root].Stack()
}

func (m *model) Tree(root int) ([]api.Entry, api.Errno) {
	switch {
	case root < 1 || root > m.g.Roots:
		return nil, 2
	case !m.up[root] || !m.up[7]:
		return nil, 15
	}
	v, e := view.Make(m.roots[root].Stack(), m.store)
	if e != api.OK {
		return nil, e
	}
	return v.Tree(), api.OK
}

func (m *model) Blobs() []api.Digest {
	if !m.up[7] {
		return nil
	}
	return m.store.Blobs()
}

func (m *model) Holds() []api.Hold {
	if !m.up[7] {
		return nil
	}
	return m.store.Holds()
}

func (m *model) Held(x api.Hold) []api.Digest {
	if !m.up[7] {
		return nil
	}
	return m.store.Held(x)
}

func (m *model) Open() []int {
	if !m.up[0] {
		return nil
	}
	return m.coord.Open()
}

func (m *model) Quiet() bool {
	for _, node := range m.nodes() {
		if !m.up[node] || len(m.net.Box(node)) > 0 {
			return false
		}
	}
	for root := 1; root <= m.g.Roots; root++ {
		if len(m.net.Link(0, root)) > 0 || len(m.net.Link(root, 0)) > 0 || m.part(root).Staged > 0 {
			return false
		}
	}
	for _, x := range m.store.Holds() {
		if x.Txn > 0 {
			return false
		}
	}
	return len(m.coord.Open()) == 0
}

// both is a host and its model, to which the same befalls.
type both struct {
	h   *Host
	m   *model
	did string
}

func newBoth(t *testing.T, g api.Genesis) *both {
	t.Helper()
	b := &both{h: begun(t, g), m: newModel(t, g), did: fmt.Sprintf("%+v", g)}
	b.compare(t)
	return b
}

// do does a step to both, and tells what it is told. What all disks have is compared as well, by what was done there.
func (b *both) do(t *testing.T, s api.Step) api.Told {
	t.Helper()
	b.did += "\n" + stepText(s)
	got, want := b.h.Do(s), b.m.do(s)
	b.did += " = " + tellOf(got)
	if !sameTold(got, want) {
		t.Fatalf("%s\nwant %s", last(b.did), tellOf(want))
	}
	b.compare(t)
	return got
}

func (b *both) compare(t *testing.T) {
	t.Helper()
	if got, want := looks(b.h), looks(b.m); got != want {
		t.Fatalf("%s\nit stands\n%s\nwant\n%s", last(b.did), got, want)
	}
	for _, node := range b.m.nodes() {
		if got, want := b.h.disks[node].Done(), b.m.disks[node].Done(); got != want {
			t.Fatalf("%s\nnode %d: Done %d, want %d", last(b.did), node, got, want)
		}
		for _, l := range [][2]int{{0, node}, {node, 0}} {
			if got, want := fmt.Sprint(b.h.net.Link(l[0], l[1]), b.h.net.Box(node)), fmt.Sprint(b.m.net.Link(l[0], l[1]), b.m.net.Box(node)); got != want {
				t.Fatalf("%s\non %v is %s, want %s", last(b.did), l, got, want)
			}
		}
	}
}

// last is the end of a long text.
func last(s string) string { return s[max(0, len(s)-8000):] }
