package host

import (
	"slices"

	"veneer/api"
	"veneer/book"
	"veneer/view"
)

func (h *Host) isTenant(id int) bool {
	_, isThere := h.tenants.Quota(id)
	return isThere
}

func (h *Host) look(s api.Step) api.Told {
	v, e := h.shown(s.Tenant, s.Root)
	if e != api.OK {
		return only(e)
	}
	x, e := v.Lookup(s.Path)
	return api.Told{Err: e, Entry: x}
}

func (h *Host) list(s api.Step) api.Told {
	v, e := h.shown(s.Tenant, s.Root)
	if e != api.OK {
		return only(e)
	}
	names, e := v.List(s.Path)
	return api.Told{Err: e, Names: names}
}

// shown tells what a tenant sees of a root.
func (h *Host) shown(tenant, root int) (*view.View, api.Errno) {
	switch {
	case !h.isTenant(tenant):
		return nil, api.ErrNone
	case !h.tenants.May(tenant, root):
		return nil, api.ErrDenied
	}
	return h.view(root)
}

// view tells what is seen of a root, whoever may use it.
func (h *Host) view(root int) (*view.View, api.Errno) {
	if !h.Up(root) || !h.Up(api.StoreNode) {
		return nil, api.ErrDown
	}
	return view.Make(h.bases[root].Stack(), h.store)
}

// state tells what a tenant may know of a transaction of its own.
func (h *Host) state(tenant, txn int) api.Told {
	switch {
	case !h.isTenant(tenant):
		return only(api.ErrNone)
	case txn < 1 || book.Owner(txn) != tenant:
		return only(api.ErrDenied)
	case !h.Up(coordinator):
		return only(api.ErrDown)
	case h.boss.book.Has(txn):
		return api.Told{N: api.CoCommitted}
	}
	return api.Told{N: h.boss.machine.State(txn)}
}

// used tells how many bytes a tenant is charged for.
func (h *Host) used(tenant int) api.Told {
	switch {
	case !h.isTenant(tenant):
		return only(api.ErrNone)
	case !h.Up(coordinator):
		return only(api.ErrDown)
	}
	return api.Told{N: h.boss.book.Used(tenant)}
}

// Up tells whether a node is up; Order and Must what the book has; Part and Stack what a root has; Tree what is seen there.
func (h *Host) Up(node int) bool {
	switch {
	case h.isNone():
		return false
	case node == coordinator:
		return h.boss.isUp()
	case node == api.StoreNode:
		return h.store != nil
	}
	return h.bases[node] != nil
}

func (h *Host) Order() []int {
	if h.isNone() {
		return nil
	}
	return h.boss.book.Order() // here and below: of what is down it is nil, and tells nothing
}

func (h *Host) Must() [][]api.Pack {
	if h.isNone() {
		return nil
	}
	return h.boss.book.Stacks()
}

func (h *Host) Part(root int) (api.Part, bool) {
	if !h.Up(root) || !h.isRoot(root) {
		return api.Part{}, false
	}
	return h.part(root), true
}

// part tells the participant that a root is, which must be up.
func (h *Host) part(root int) api.Part {
	staged, _ := h.bases[root].Staged()
	return api.Part{Root: root, Staged: staged, Done: h.bases[root].Done()}
}

func (h *Host) Stack(root int) []api.Pack {
	if h.isNone() {
		return nil
	}
	return h.bases[root].Stack()
}

func (h *Host) Tree(root int) ([]api.Entry, api.Errno) {
	switch {
	case h.isNone():
		return nil, api.ErrNil
	case !h.isRoot(root):
		return nil, api.ErrArg
	}
	v, e := h.view(root)
	if e != api.OK {
		return nil, e
	}
	return v.Tree(), api.OK
}

// Blobs, Holds and Held tell what the store has; Open who is open; Quiet whether nothing is left to be done.
func (h *Host) Blobs() []api.Digest {
	if h.isNone() {
		return nil
	}
	return h.store.Blobs()
}

func (h *Host) Holds() []api.Hold {
	if h.isNone() {
		return nil
	}
	return h.store.Holds()
}

func (h *Host) Held(x api.Hold) []api.Digest {
	if h.isNone() {
		return nil
	}
	return h.store.Held(x)
}

func (h *Host) Open() []int {
	if h.isNone() {
		return nil
	}
	return h.boss.machine.Open()
}

func (h *Host) Quiet() bool {
	if h.isNone() {
		return false
	}
	for _, node := range h.nodes() {
		if !h.Up(node) || h.isWaitedFor(node) {
			return false
		}
	}
	return len(h.Open()) == 0 && !slices.ContainsFunc(h.Holds(), isPin)
}

// isWaitedFor tells whether a node has something to do: a message on the way to it, or one in its box, or somebody staged. The store, and the link of the coordinator with itself, never have any of these.
func (h *Host) isWaitedFor(node int) bool {
	p, _ := h.Part(node)
	onLinks := len(h.net.Link(coordinator, node)) + len(h.net.Link(node, coordinator))
	return onLinks+len(h.net.Box(node)) > 0 || p.Staged != 0
}

// isPin tells a hold of a transaction.
func isPin(x api.Hold) bool {
	return x.Txn > 0
}
