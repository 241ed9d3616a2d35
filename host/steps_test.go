package host

import (
	"fmt"
	"slices"
	"strings"
	"testing"

	"veneer/api"
)

// A genesis of so many roots, with tenants; those that hosts begin with here have room enough, and give up at the third tick.

func genesis(roots int, l ...api.Tenant) api.Genesis {
	return api.Genesis{Roots: roots, Limit: 3, Blocks: 1000, Tenants: l}
}

func tenant(id, quota int, roots ...int) api.Tenant {
	return api.Tenant{Id: id, Quota: quota, Roots: roots}
}

// rich is a tenant that may have as much as it likes.
func rich(id int, roots ...int) api.Tenant { return tenant(id, 1<<40, roots...) }

// Entries, layers and wants. A file's layer is charged for its path and its body.

func file(path, body string) api.Entry {
	return api.Entry{Path: path, Kind: api.File, Mode: 420, Body: body}
}

func dir(path string) api.Entry { return api.Entry{Path: path, Kind: api.Dir, Mode: 493} }

func white(path string) api.Entry { return api.Entry{Path: path, Kind: api.White} }

func layerOf(l ...api.Entry) []api.Entry { return l }

func install(root int, name, version string, layers ...[]api.Entry) api.Want {
	return api.Want{Kind: api.OpInstall, Root: root, Name: name, Version: version, Layers: layers}
}

func upgrade(root int, name, version string, layers ...[]api.Entry) api.Want {
	return api.Want{Kind: api.OpUpgrade, Root: root, Name: name, Version: version, Layers: layers}
}

func remove(root int, name string) api.Want {
	return api.Want{Kind: api.OpRemove, Root: root, Name: name}
}

// simple is a package of one file of its name, which it is charged twice for.
func simple(root int, name string) api.Want {
	return install(root, name, "1", layerOf(file(name, name)))
}

// wide is a layer of n files of 256 bytes, which is charged for 258 n, or for less than 10 bytes more.
func wide(mark string, n int) []api.Entry {
	var l []api.Entry
	for i := range n {
		l = append(l, file(mark+fmt.Sprint(i), strings.Repeat(mark, api.MaxBody)))
	}
	return l
}

// The steps.

func ask(tenant int, l ...api.Want) api.Step {
	return api.Step{Kind: api.StAsk, Tenant: tenant, Wants: l}
}

func deliverDown(root, at int) api.Step {
	return api.Step{Kind: api.StDeliver, Root: root, N: at, Down: true}
}

func deliverUp(root, at int) api.Step { return api.Step{Kind: api.StDeliver, Root: root, N: at} }

func dropDown(root, at int) api.Step {
	return api.Step{Kind: api.StDrop, Root: root, N: at, Down: true}
}

func dropUp(root, at int) api.Step { return api.Step{Kind: api.StDrop, Root: root, N: at} }

func doubleDown(root, at int) api.Step {
	return api.Step{Kind: api.StDouble, Root: root, N: at, Down: true}
}

func doubleUp(root, at int) api.Step { return api.Step{Kind: api.StDouble, Root: root, N: at} }

func take(node int) api.Step { return api.Step{Kind: api.StTake, Node: node} }

func tick(node int) api.Step { return api.Step{Kind: api.StTick, Node: node} }

func crash(node int, keep ...int) api.Step {
	return api.Step{Kind: api.StCrash, Node: node, Keep: keep}
}

func start(node int) api.Step { return api.Step{Kind: api.StStart, Node: node} }

func fuse(node, n int) api.Step { return api.Step{Kind: api.StFuse, Node: node, N: n} }

func look(tenant, root int, path string) api.Step {
	return api.Step{Kind: api.StLook, Tenant: tenant, Root: root, Path: path}
}

func list(tenant, root int, path string) api.Step {
	return api.Step{Kind: api.StList, Tenant: tenant, Root: root, Path: path}
}

func state(tenant, txn int) api.Step {
	return api.Step{Kind: api.StState, Tenant: tenant, N: txn}
}

func used(tenant int) api.Step { return api.Step{Kind: api.StUsed, Tenant: tenant} }

func sweep() api.Step { return api.Step{Kind: api.StSweep} }

func round() api.Step { return api.Step{Kind: api.StRound} }

// What is told.

func refused(e api.Errno) api.Told { return api.Told{Err: e} }

func number(n int) api.Told { return api.Told{N: n} }

func sameTold(x, y api.Told) bool {
	return x.Err == y.Err && x.N == y.N && x.Entry == y.Entry && slices.Equal(x.Names, y.Names)
}

func tellOf(x api.Told) string {
	return fmt.Sprintf("%d, N %d, %+v, %q", int(x.Err), x.N, x.Entry, x.Names)
}

// stepText is a step in few words.
func stepText(s api.Step) string {
	names := []string{"none", "ask", "deliver", "drop", "double", "take", "tick", "crash", "start", "fuse", "sweep", "look", "list", "state", "used", "round"}
	name := fmt.Sprint(s.Kind)
	if s.Kind > 0 && s.Kind < len(names) {
		name = names[s.Kind]
	}
	out := fmt.Sprintf("%s(node %d, tenant %d, root %d, N %d, down %v, path %.30q, keep %v", name, s.Node, s.Tenant, s.Root, s.N, s.Down, s.Path, s.Keep)
	for i, w := range s.Wants {
		if i == 10 {
			return out + " ..)"
		}
		out += fmt.Sprintf("; %d@%d %.20q %.20q", w.Kind, w.Root, w.Name, w.Version)
		for _, l := range w.Layers {
			out += fmt.Sprintf(" [%d", len(l))
			for _, x := range l[:min(len(l), 3)] {
				out += fmt.Sprintf(" %d %.20q(%d)", x.Kind, x.Path, len(x.Body))
			}
			out += "]"
		}
	}
	return out + ")"
}

// begun is a new host.
func begun(t *testing.T, g api.Genesis) *Host {
	t.Helper()
	h, e := New(g)
	if e != api.OK || h == nil {
		t.Fatalf("New(%+v) = %v, %d", g, h, int(e))
	}
	return h
}

// tells does a step that is told just that.
func tells(t *testing.T, h *Host, s api.Step, want api.Told) {
	t.Helper()
	if got := h.Do(s); !sameTold(got, want) {
		t.Fatalf("%s is told %s, want %s", stepText(s), tellOf(got), tellOf(want))
	}
}

// must does steps that are told OK, whatever else.
func must(t *testing.T, h *Host, l ...api.Step) {
	t.Helper()
	for _, s := range l {
		if got := h.Do(s); got.Err != api.OK {
			t.Fatalf("%s is told %s", stepText(s), tellOf(got))
		}
	}
}

// asked is the number that a request is told.
func asked(t *testing.T, h *Host, s api.Step) int {
	t.Helper()
	got := h.Do(s)
	if got.Err != api.OK || !sameTold(got, number(got.N)) || got.N < 1 {
		t.Fatalf("%s is told %s", stepText(s), tellOf(got))
	}
	return got.N
}

// rounds lets three rounds go by: a request that is taken is done then, and nothing is left.
func rounds(t *testing.T, h *Host) {
	t.Helper()
	must(t, h, round(), round(), round())
	if !h.Quiet() {
		t.Fatalf("it is not quiet behind three rounds: %s", looks(h))
	}
}

// installed is a host of two roots, which tenant 1 may use, with package p on both.
func installed(t *testing.T) *Host {
	t.Helper()
	h := begun(t, genesis(2, rich(1, 1, 2)))
	asked(t, h, ask(1, simple(1, "p"), simple(2, "p")))
	rounds(t, h)
	return h
}

// stands is what can be looked at from outside.
type stands interface {
	Up(node int) bool
	Order() []int
	Must() [][]api.Pack
	Part(root int) (api.Part, bool)
	Stack(root int) []api.Pack
	Tree(root int) ([]api.Entry, api.Errno)
	Blobs() []api.Digest
	Holds() []api.Hold
	Held(x api.Hold) []api.Digest
	Open() []int
	Quiet() bool
}

// looks is all that is told beside steps, as a text; an empty list is told as one that is nil.
func looks(h stands) string {
	var out strings.Builder
	for node := -1; node <= 8; node++ {
		part, ok := h.Part(node)
		tree, e := h.Tree(node)
		fmt.Fprintf(&out, "node %d: up %v, %v %v, stack%s, tree %d %v\n", node, h.Up(node), part, ok, packsText(h.Stack(node)), int(e), tree)
	}
	fmt.Fprintf(&out, "order %v, open %v, must", h.Order(), h.Open())
	for _, l := range h.Must() {
		fmt.Fprintf(&out, " /%s", packsText(l))
	}
	fmt.Fprintf(&out, "\nblobs%s, held 9 7: %v, quiet %v", sumsText(h.Blobs()), h.Held(api.Hold{Root: 9, Txn: 7}), h.Quiet())
	for _, x := range h.Holds() {
		fmt.Fprintf(&out, "\n%v:%s", x, sumsText(h.Held(x)))
	}
	return out.String()
}

func packsText(l []api.Pack) string {
	var out strings.Builder
	for _, p := range l {
		fmt.Fprintf(&out, " %d %s %s", p.Owner, p.Man.Name, p.Man.Version)
		for _, x := range p.Man.Layers {
			fmt.Fprintf(&out, " %x:%d", x.Sum[:4], x.Size)
		}
	}
	return out.String()
}

func sumsText(l []api.Digest) string {
	var out strings.Builder
	for _, x := range l {
		fmt.Fprintf(&out, " %x", x[:4])
	}
	return out.String()
}
