package host

import (
	"veneer/api"
	"veneer/blob"
	"veneer/book"
	"veneer/coord"
	"veneer/part"
	"veneer/rootdb"
)

// boss is what the coordinator has as long as it is up.
type boss struct {
	book    *book.Book
	machine *coord.Coord
	asked   map[int]request // by their numbers those that it began, and that are neither written down nor given up
}

func (b boss) isUp() bool {
	return b.book != nil
}

// knows tells whether a transaction is open, or written down: any other one is given up.
func (b boss) knows(txn int) bool {
	return b.machine.State(txn) != 0 || b.book.Has(txn)
}

// roots tells those of an open transaction.
func (b boss) roots(txn int) []int {
	if x, isThere := b.asked[txn]; isThere {
		return x.roots
	}
	return b.book.Roots(txn)
}

// on does something with the disk of a node: where that is down, so is the node.
func (h *Host) on(node int, deed func() api.Errno) api.Errno {
	if !h.Up(node) {
		return api.ErrDown
	}
	e := deed()
	if e == api.ErrDown {
		h.fall(node)
	}
	return e
}

// fall takes a node down.
func (h *Host) fall(node int) {
	switch node {
	case coordinator:
		h.boss = boss{}
	case api.StoreNode:
		h.store = nil
	default:
		delete(h.bases, node)
	}
	h.net.Clear(node)
}

// crash loses what the disk of a node was not told to keep.
func (h *Host) crash(node int, keep []int) api.Errno {
	h.fall(node)
	return h.disks[node].Crash(keep)
}

// start finds what the disk of a node has.
func (h *Host) start(node int) api.Errno {
	if h.Up(node) {
		return api.ErrState
	}
	d := h.disks[node]
	switch node {
	case coordinator:
		found, e := book.Open(d)
		if e != api.OK {
			return e
		}
		h.recall(found)
	case api.StoreNode:
		found, e := blob.Open(d)
		if e != api.OK {
			return e
		}
		h.store = found
	default:
		found, e := rootdb.Open(d)
		if e != api.OK {
			return e
		}
		h.bases[node] = found
	}
	return api.OK
}

// recall begins again with what a book has: not all may have done what it has left.
func (h *Host) recall(found *book.Book) {
	h.boss = boss{book: found, machine: coord.New(h.limit), asked: map[int]request{}}
	for _, txn := range found.Left() {
		out, _ := h.boss.machine.Recall(txn, found.Roots(txn)) // it refuses no entry
		h.send(out...)
	}
}

// send lets messages go: those for which there is no room are lost, and told again by a tick.
func (h *Host) send(l ...api.Msg) {
	for _, m := range l {
		h.net.Send(m)
	}
}

// deliver brings a message into a box, if anybody is there.
func (h *Host) deliver(from, to, at int) api.Errno {
	if h.isPeer(to) && !h.Up(to) {
		return api.ErrDown
	}
	return h.net.Deliver(from, to, at)
}

// take lets a node take the first message of its box.
func (h *Host) take(node int) api.Errno {
	m, isThere := h.net.Take(node)
	switch {
	case !isThere:
		return api.ErrNone
	case node == coordinator:
		h.hear(m)
	default:
		h.do(node, part.Take(h.part(node), m))
	}
	return api.OK
}

// tick lets time go by at a node.
func (h *Host) tick(node int) api.Errno {
	if node != coordinator {
		h.do(node, part.Tick(h.part(node)))
		return api.OK
	}
	out, gone := h.boss.machine.Tick()
	h.send(out...)
	for _, txn := range gone {
		h.forget(txn)
	}
	h.freeUnknown()
	return api.OK
}

// do does deeds of a root, up to the first that is refused.
func (h *Host) do(root int, deeds []api.Deed) {
	for _, d := range deeds {
		if h.deed(root, d) != api.OK {
			return
		}
	}
}

func (h *Host) deed(root int, d api.Deed) api.Errno {
	switch d.Kind {
	case api.DoSettle:
		return h.on(api.StoreNode, func() api.Errno { return h.store.Turn(api.Hold{Root: root, Txn: d.Txn}) })
	case api.DoStage:
		return h.on(root, func() api.Errno { return h.bases[root].Stage(d.Txn, d.Packs) })
	case api.DoCommit:
		return h.on(root, func() api.Errno { return h.bases[root].Commit(d.Txn) })
	case api.DoAbort:
		return h.on(root, func() api.Errno { return h.bases[root].Abort(d.Txn) })
	}
	h.send(d.Msg)
	return api.OK
}

// hear does what the coordinator says to a message.
func (h *Host) hear(m api.Msg) {
	said := h.boss.machine.Take(m)
	h.send(said.Out...)
	switch {
	case said.Log != 0:
		h.log(said.Log)
	case said.Gone != 0:
		h.forget(said.Gone)
	case said.Close != 0:
		h.on(coordinator, func() api.Errno { return h.boss.book.Close(said.Close) }) // what stays open there is recalled
	}
}

// log writes a transaction down for which all voted. Where the disk went down nobody knows whether it is written: the next start tells.
func (h *Host) log(txn int) {
	x := h.boss.asked[txn]
	e := h.on(coordinator, func() api.Errno { return h.boss.book.Log(txn, x.owner, x.ops) })
	switch {
	case e == api.OK:
		delete(h.boss.asked, txn) // the book charges its owner from now on
		out, _ := h.boss.machine.Sure(txn)
		h.send(out...)
	case h.Up(coordinator):
		out, _ := h.boss.machine.Quit(txn)
		h.send(out...)
		h.forget(txn)
	}
}

// forget lets go all that there is for a transaction that is given up.
func (h *Host) forget(txn int) {
	roots := h.boss.roots(txn)
	delete(h.boss.asked, txn)
	for _, root := range roots {
		h.free(api.Hold{Root: root, Txn: txn})
	}
}

func (h *Host) free(x api.Hold) api.Errno {
	return h.on(api.StoreNode, func() api.Errno { return h.store.Free(x) })
}

// freeUnknown lets go what is held for transactions that are given up: the store was down then, or the coordinator lost them.
func (h *Host) freeUnknown() {
	for _, x := range h.Holds() {
		if !isPin(x) || h.boss.knows(x.Txn) {
			continue
		}
		if h.free(x) != api.OK {
			return
		}
	}
}

// round lets all that is under way arrive, and time go by; it tells how many messages were taken.
func (h *Host) round() int {
	taken := 0
	for i := range h.roots {
		root := i + 1
		h.bring(coordinator, root)
		taken += h.takeAll(root)
		h.atPeer(root, h.tick)
		h.bring(root, coordinator)
		taken += h.takeAll(coordinator)
	}
	h.atPeer(coordinator, h.tick)
	return taken
}

// bring delivers as many messages of a link as are under way, the first one first.
func (h *Host) bring(from, to int) {
	for range len(h.net.Link(from, to)) {
		h.deliver(from, to, 0)
	}
}

func (h *Host) takeAll(node int) int {
	taken := 0
	for h.atPeer(node, h.take) == api.OK {
		taken++
	}
	return taken
}
