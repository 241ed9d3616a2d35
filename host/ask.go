package host

import (
	"slices"

	"veneer/api"
	"veneer/layer"
	"veneer/plan"
	"veneer/rootdb"
)

// request is what a tenant asked for.
type request struct {
	owner    int
	ops      []api.Op
	roots    []int // rising
	reserved int   // bytes of its quota
}

// ask begins a transaction, and tells its number.
func (h *Host) ask(tenant int, wants []api.Want) api.Told {
	if e := h.refuses(tenant, wants); e != api.OK {
		return only(e)
	}
	ops, blobs, e := opsOf(wants)
	if e != api.OK {
		return only(e)
	}
	stacks := h.boss.book.Stacks()
	plans, _, e := plan.All(stacks, tenant, ops)
	if e != api.OK {
		return only(e)
	}
	x := request{owner: tenant, ops: ops}
	for _, p := range plans {
		x.roots = append(x.roots, p.Root)
		x.reserved += plan.More(stacks[p.Root-1], p.Packs, tenant)
	}
	if e := h.hasRoom(x); e != api.OK {
		return only(e)
	}
	txn, e := h.boss.book.Next(tenant)
	if e != api.OK {
		return only(e)
	}
	if e := h.lay(txn, blobs, plans); e != api.OK {
		return only(e)
	}
	out, _ := h.boss.machine.Begin(txn, plans) // a new number, and plans that were let through
	h.boss.asked[txn] = x
	h.send(out...)
	return api.Told{N: txn}
}

// refuses tells what speaks against a tenant's asking, whatever is in the layers.
func (h *Host) refuses(tenant int, wants []api.Want) api.Errno {
	switch {
	case !h.Up(coordinator) || !h.Up(api.StoreNode):
		return api.ErrDown
	case !h.isTenant(tenant):
		return api.ErrNone
	case slices.ContainsFunc(wants, func(w api.Want) bool { return !h.tenants.May(tenant, w.Root) }):
		return api.ErrDenied
	}
	return api.OK
}

// opsOf tells the operations that are asked for, and the bytes of all their layers, in order.
func opsOf(wants []api.Want) ([]api.Op, []string, api.Errno) {
	var ops []api.Op
	var blobs []string
	for _, w := range wants {
		op := api.Op{Kind: w.Kind, Root: w.Root, Name: w.Name, Version: w.Version}
		for _, l := range w.Layers {
			b, e := layer.Encode(l)
			if e != api.OK {
				return nil, nil, e
			}
			if len(b) > api.MaxBlob {
				return nil, nil, api.ErrBig
			}
			sum, _ := layer.Id(l) // it refuses what Encode refuses
			op.Layers = append(op.Layers, api.Ref{Sum: sum, Size: layer.Size(l)})
			blobs = append(blobs, string(b))
		}
		ops = append(ops, op)
	}
	return ops, blobs, api.OK
}

// hasRoom tells what speaks against a request beside those that are open.
func (h *Host) hasRoom(x request) api.Errno {
	for _, txn := range h.Open() {
		for _, root := range h.boss.roots(txn) {
			if slices.Contains(x.roots, root) {
				return api.ErrBusy
			}
		}
	}
	used := h.boss.book.Used(x.owner) + h.boss.reserved(x.owner)
	return h.tenants.Fits(x.owner, used, x.reserved)
}

// reserved tells the bytes that a tenant's open transactions may add to what the book charges it for.
func (b boss) reserved(owner int) int {
	sum := 0
	for _, x := range b.asked {
		if x.owner == owner {
			sum += x.reserved
		}
	}
	return sum
}

// lay puts layers into the store, and holds for a transaction what its plans want. Its number is used up by that, whatever comes of it: where the store goes down nobody knows what it holds.
func (h *Host) lay(txn int, blobs []string, plans []api.Plan) api.Errno {
	for _, data := range blobs {
		e := h.on(api.StoreNode, func() api.Errno {
			_, e := h.store.Put(data)
			return e
		})
		if e != api.OK {
			return e
		}
	}
	for i, p := range plans {
		x := api.Hold{Root: p.Root, Txn: txn}
		e := h.on(api.StoreNode, func() api.Errno { return h.store.Hold(x, rootdb.Sums(p.Packs)) })
		if e == api.OK {
			continue
		}
		for _, q := range plans[:i] {
			h.free(api.Hold{Root: q.Root, Txn: txn})
		}
		return e
	}
	return api.OK
}
