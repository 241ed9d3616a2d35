package host

import (
	"fmt"
	"math"
	"math/rand"
	"slices"
	"testing"

	"veneer/api"
)

// chance picks steps that befall a host. Numbers are how many of a thousand steps are of a kind; what is left are steps that look on.
type chance struct {
	*rand.Rand
	asks, wires, losses, takes, ticks, rounds int
	crashes, starts, fuses, sweeps            int
	wrong                                     int // of a thousand choices, how many are of what may not be
	grow                                      bool
}

// calm has no power lost, stormy has much of it.

func calm(r *rand.Rand) *chance {
	return &chance{Rand: r, asks: 250, wires: 250, losses: 40, takes: 250, ticks: 60, rounds: 20, sweeps: 20, wrong: 15}
}

func stormy(r *rand.Rand) *chance {
	return &chance{Rand: r, asks: 200, wires: 220, losses: 30, takes: 220, ticks: 50, rounds: 20, crashes: 30, starts: 100, fuses: 40, sweeps: 20, wrong: 10}
}

func (c *chance) isWrong() bool { return c.Intn(1000) < c.wrong }

func pick[T any](c *chance, l ...T) T { return l[c.Intn(len(l))] }

func (c *chance) odd() int {
	return pick(c, math.MinInt, -1000, -1, 0, 1, 7, 8, 9, 64, 65, 1000, math.MaxInt)
}

// node is one of the genesis, or, now and then, none.
func (c *chance) node(g api.Genesis) int {
	n := c.Intn(g.Roots + 2)
	switch {
	case c.isWrong():
		return c.odd()
	case n == g.Roots+1:
		return api.StoreNode
	}
	return n
}

func (c *chance) tenant(g api.Genesis) api.Tenant {
	if c.isWrong() || len(g.Tenants) == 0 {
		return api.Tenant{Id: c.odd()}
	}
	return pick(c, g.Tenants...)
}

func (c *chance) root(g api.Genesis, t api.Tenant) int {
	if c.isWrong() || len(t.Roots) == 0 {
		return pick(c, c.odd(), 1, 2, 3, 4, 5, 6)
	}
	return pick(c, t.Roots...)
}

// layers are some that may be, of which several have the same paths; the wrong ones may not be, or have too many bytes.
func layers() [][]api.Entry {
	return [][]api.Entry{
		layerOf(file("s", "")),
		layerOf(file("a", "x")),
		layerOf(file("a", "yy")),
		layerOf(dir("d"), file("d/e", "zzz")),
		layerOf(api.Entry{Path: "d", Kind: api.Blind, Mode: 7}, file("d/f", "")),
		layerOf(white("a"), file("b/c", "four")),
		layerOf(white("d/e")),
		layerOf(),
		wide("w", 1),
		wide("v", 3),
		wide("u", 7),
	}
}

func wrongLayers() [][]api.Entry {
	return [][]api.Entry{
		layerOf(file("/a", "")),
		layerOf(file("A", "")),
		layerOf(api.Entry{Path: "a", Kind: 5}),
		layerOf(api.Entry{Path: "a", Kind: api.File, Mode: 512}),
		layerOf(api.Entry{Path: "a", Kind: api.Dir, Body: "x"}),
		layerOf(file("b", ""), file("a", "")),
		layerOf(file("a", ""), file("a/b", "")),
		make([]api.Entry, 65),
		wide("t", 8),
	}
}

func (c *chance) layers() [][]api.Entry {
	var l [][]api.Entry
	all := layers()
	for _, i := range c.Perm(len(all))[:1+c.Intn(2)] {
		l = append(l, all[i])
	}
	switch {
	case c.isWrong():
		l = append(l, pick(c, wrongLayers()...))
	case c.isWrong():
		l = append(l, l[0])
	case c.isWrong():
		return nil
	case c.isWrong():
		return slices.Repeat(all, 1)
	}
	return l
}

func (c *chance) want(g api.Genesis, t api.Tenant, must [][]api.Pack) api.Want {
	w := install(c.root(g, t), pick(c, "p", "q", "r"), pick(c, "1", "2", "10"), c.layers()...)
	hasName := w.Root >= 1 && w.Root <= len(must) && slices.ContainsFunc(must[w.Root-1], func(p api.Pack) bool { return p.Man.Name == w.Name })
	if c.grow { // a greater number has as many signs, or more
		w.Version = fmt.Sprint(pick(c, c.Intn(10), c.Intn(100), c.Intn(1000), c.Intn(100000)))
		w.Layers = [][]api.Entry{layerOf(file("g", w.Version))}
	}
	switch {
	case c.isWrong():
		w.Kind = c.odd()
	case c.isWrong():
		w.Name = pick(c, "", "P", "nobody")
	case c.isWrong():
		w.Version = pick(c, "", "/")
	case c.isWrong():
		w.Kind = 1 + c.Intn(3)
	case hasName && (c.grow || c.Intn(2) == 0):
		w.Kind = api.OpUpgrade
	case hasName:
		return remove(w.Root, w.Name)
	}
	return w
}

func (c *chance) ask(g api.Genesis, h *Host) api.Step {
	t := c.tenant(g)
	var l []api.Want
	for range 1 + c.Intn(3) {
		l = append(l, c.want(g, t, h.Must()))
	}
	switch {
	case c.isWrong():
		l = nil
	case c.isWrong():
		l = slices.Repeat(l, 9)
	}
	return ask(t.Id, l...)
}

// wire is a step on a link: mostly on one where something is under way.
func (c *chance) wire(g api.Genesis, h *Host, kind int) api.Step {
	s := api.Step{Kind: kind, Root: 1 + c.Intn(g.Roots), Down: c.Intn(2) == 0}
	var l []api.Step
	for root := 1; root <= g.Roots; root++ {
		for at := range h.net.Link(0, root) {
			l = append(l, api.Step{Kind: kind, Root: root, N: at, Down: true})
		}
		for at := range h.net.Link(root, 0) {
			l = append(l, api.Step{Kind: kind, Root: root, N: at})
		}
	}
	if len(l) > 0 {
		s = pick(c, l...)
	}
	if c.isWrong() {
		s.N = c.odd()
	}
	if c.isWrong() {
		s.Root = c.odd()
	}
	return s
}

func (c *chance) take(g api.Genesis, h *Host) api.Step {
	for _, node := range c.Perm(g.Roots + 1) {
		if len(h.net.Box(node)) > 0 && !c.isWrong() {
			return take(node)
		}
	}
	return take(c.node(g))
}

func (c *chance) keep() []int {
	var l []int
	for range c.Intn(5) {
		l = append(l, pick(c, c.odd(), 0, 1, 2))
	}
	return l
}

func (c *chance) path() string {
	return pick(c, "", "/", "a", "/a", "d", "d/e", "d/./f", "b", "b/c", "..", "A", "w0", "nobody", "a/b")
}

// start is that of a node that is down, if any is, behind a crash if its disk is down too.
func (c *chance) start(g api.Genesis, h *Host) api.Step {
	for _, i := range c.Perm(8) {
		if d := h.disks[i]; d != nil && !h.Up(i) {
			if !d.Up() && c.Intn(4) > 0 {
				return crash(i, c.keep()...)
			}
			return start(i)
		}
	}
	return start(c.node(g))
}

// onlook is a step that changes nothing.
func (c *chance) onlook(g api.Genesis, h *Host) api.Step {
	t := c.tenant(g)
	switch c.Intn(5) {
	case 0:
		return look(t.Id, c.root(g, t), c.path())
	case 1:
		return list(t.Id, c.root(g, t), c.path())
	case 2:
		return used(t.Id)
	}
	numbers := append(append(h.Order(), h.Open()...), c.odd(), 1<<20+1, 1<<21+1<<17+1, 1<<40, 1<<40+1)
	return state(t.Id, pick(c, numbers...))
}

func (c *chance) step(g api.Genesis, h *Host) api.Step {
	n := c.Intn(1000)
	isNext := func(share int) bool {
		n -= share
		return n < 0
	}
	switch {
	case c.Intn(4000) < c.wrong:
		return api.Step{Kind: pick(c, math.MinInt, -1, 0, 16, 99, math.MaxInt), Node: c.Intn(9), Tenant: 1, Root: 1}
	case isNext(c.asks):
		return c.ask(g, h)
	case isNext(c.wires):
		return c.wire(g, h, api.StDeliver)
	case isNext(c.losses):
		return c.wire(g, h, pick(c, api.StDrop, api.StDouble))
	case isNext(c.takes):
		return c.take(g, h)
	case isNext(c.ticks):
		return tick(c.node(g))
	case isNext(c.rounds):
		return round()
	case isNext(c.crashes):
		return crash(c.node(g), c.keep()...)
	case isNext(c.starts):
		return c.start(g, h)
	case isNext(c.fuses):
		return fuse(c.node(g), pick(c, c.Intn(4), c.Intn(20), c.Intn(60), c.odd()))
	case isNext(c.sweeps):
		return sweep()
	}
	return c.onlook(g, h)
}

// someGenesis has any number of roots and tenants.
func (c *chance) genesis(blocks ...int) api.Genesis {
	g := api.Genesis{Roots: 1 + c.Intn(api.MaxRoots), Limit: 1 + c.Intn(4), Blocks: pick(c, blocks...)}
	for _, i := range c.Perm(api.MaxTenants)[:1+c.Intn(4)] {
		t := api.Tenant{Id: i + 1, Quota: pick(c, 1<<40, 1<<40, 3000, 300, 20)}
		for _, j := range c.Perm(g.Roots)[:1+c.Intn(g.Roots)] {
			t.Roots = append(t.Roots, j+1)
		}
		if c.isWrong() {
			t.Roots = nil
		}
		g.Tenants = append(g.Tenants, t)
	}
	return g
}

// TestByChance holds hosts against the model, step by step.
func TestByChance(t *testing.T) {
	t.Parallel()
	count := map[string]int{}
	for seed := range 260 {
		r := rand.New(rand.NewSource(int64(seed)))
		c := pick(&chance{Rand: r}, calm, stormy)(r)
		g := c.genesis(64, 80, 120, 250, 1000, 1000)
		if r.Intn(3) == 0 { // all may be at any time
			c.wrong = 60
		}
		b := newBoth(t, g)
		for range 150 {
			s := c.step(g, b.h)
			x := b.do(t, s)
			count[fmt.Sprint(s.Kind, " ", int(x.Err))]++
		}
	}
	if testing.Verbose() {
		t.Log(count)
	}
}
