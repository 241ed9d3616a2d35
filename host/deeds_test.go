package host

import (
	"fmt"
	"math"
	"slices"
	"strings"
	"testing"

	"veneer/api"
	"veneer/book"
	"veneer/disk"
)

// P21.4

func TestWires(t *testing.T) {
	h := begun(t, genesis(2, rich(1, 1, 2)))
	must(t, h, ask(1, simple(1, "p"), simple(2, "p")))
	stand := func(rest string) string { return "0 1.1.1(1); 1; 2; 7 1 1/1.1.1 2/1.1.1" + rest }
	play(t, h,
		// Double and drop, at each place, and at those that are none.
		ok(doubleDown(1, 0), stand("; 0>1 prepare 1.1.1, prepare 1.1.1; 0>2 prepare 1.1.1")),
		not(doubleDown(1, 2), api.ErrNone, ""), not(doubleDown(1, -1), api.ErrNone, ""), not(doubleUp(1, 0), api.ErrNone, ""),
		not(dropDown(1, 2), api.ErrNone, ""), not(dropDown(1, -1), api.ErrNone, ""), not(dropUp(1, 0), api.ErrNone, ""),
		not(deliverDown(1, 2), api.ErrNone, ""), not(deliverDown(1, -1), api.ErrNone, ""), not(deliverUp(1, 0), api.ErrNone, ""),
		not(deliverDown(1, math.MaxInt), api.ErrNone, ""), not(deliverDown(1, math.MinInt), api.ErrNone, ""),
		ok(dropDown(1, 1), stand("; 0>1 prepare 1.1.1; 0>2 prepare 1.1.1")),
		ok(tick(0), stand("; 0>1 prepare 1.1.1, prepare 1.1.1; 0>2 prepare 1.1.1, prepare 1.1.1")),
		ok(deliverDown(2, 1), stand("; 0>1 prepare 1.1.1, prepare 1.1.1; 0>2 prepare 1.1.1; [2] prepare 1.1.1")),
		ok(dropDown(2, 0), stand("; 0>1 prepare 1.1.1, prepare 1.1.1; [2] prepare 1.1.1")),
		not(dropDown(2, 0), api.ErrNone, ""),
		ok(take(2), "0 1.1.1(1); 1; 2 ?1.1.1; 7 1 1/1.1.1 2/1.1.1; 0>1 prepare 1.1.1, prepare 1.1.1; 2>0 yes 1.1.1"),
		not(deliverDown(2, 0), api.ErrNone, ""), // it is the other way
		ok(doubleUp(2, 0), "0 1.1.1(1); 1; 2 ?1.1.1; 7 1 1/1.1.1 2/1.1.1; 0>1 prepare 1.1.1, prepare 1.1.1; 2>0 yes 1.1.1, yes 1.1.1"),
		ok(deliverUp(2, 1), "0 1.1.1(1); 1; 2 ?1.1.1; 7 1 1/1.1.1 2/1.1.1; 0>1 prepare 1.1.1, prepare 1.1.1; 2>0 yes 1.1.1; [0] yes 1.1.1"),
		ok(dropUp(2, 0), "0 1.1.1(1); 1; 2 ?1.1.1; 7 1 1/1.1.1 2/1.1.1; 0>1 prepare 1.1.1, prepare 1.1.1; [0] yes 1.1.1"))
}

// Each place of a link is that of its own message.
func TestPlacesOfWires(t *testing.T) {
	for at := range 3 {
		h := begun(t, genesis(1, rich(1, 1)))
		for range 3 { // three transactions that are given up leave a prepare, and an abort each
			must(t, h, ask(1, simple(1, "p")), crash(0), start(0))
		}
		names := []string{"prepare 1.1.1", "prepare 2.1.1", "prepare 3.1.1"}
		rest := strings.Join(slices.Delete(slices.Clone(names), at, at+1), ", ")
		stand := "0; 1; 7 1 1/1.1.1 1/2.1.1 1/3.1.1; 0>1 "
		play(t, h,
			ok(doubleDown(1, at), stand+strings.Join(names, ", ")+", "+names[at]),
			ok(deliverDown(1, at), stand+rest+", "+names[at]+"; [1] "+names[at]),
			ok(dropDown(1, 2), stand+rest+"; [1] "+names[at]))
	}
}

func TestWiresOfNoNode(t *testing.T) {
	for _, isDown := range []bool{false, true} {
		h := begun(t, genesis(3, rich(1, 1, 2, 3)))
		must(t, h, ask(1, simple(1, "p"), simple(2, "p"), simple(3, "p")), deliverDown(2, 0), take(2))
		if isDown { // then what leads to the coordinator leads nowhere, whatever it comes from
			must(t, h, crash(0))
		}
		for _, root := range []int{math.MinInt, -1, 0, 4, 5, 6, 7, 8, math.MaxInt} {
			for _, at := range []int{math.MinInt, -1, 0, 1, math.MaxInt} {
				up, down := api.ErrNone, api.ErrNone
				if isDown {
					up = api.ErrDown
				}
				if isDown && root == 0 {
					down = api.ErrDown
				}
				play(t, h,
					not(deliverDown(root, at), down, ""), not(dropDown(root, at), api.ErrNone, ""), not(doubleDown(root, at), api.ErrNone, ""),
					not(deliverUp(root, at), up, ""), not(dropUp(root, at), api.ErrNone, ""), not(doubleUp(root, at), api.ErrNone, ""))
			}
		}
	}
}

// What leads to a node that is down is not delivered; it may be lost, or doubled.
func TestWiresOfNodesThatAreDown(t *testing.T) {
	h := begun(t, genesis(2, rich(1, 1, 2)))
	must(t, h, ask(1, simple(1, "p"), simple(2, "p")), deliverDown(1, 0), take(1), crash(0), crash(2))
	play(t, h,
		not(deliverUp(1, 0), api.ErrDown, "0 down; 1 ?1.1.1; 2 down; 7 1 1/1.1.1 2/1.1.1; 1>0 yes 1.1.1; 0>2 prepare 1.1.1"),
		not(deliverUp(1, 5), api.ErrDown, ""), // ahead of what the wire says
		not(deliverUp(2, 0), api.ErrDown, ""),
		not(deliverDown(2, 0), api.ErrDown, ""),
		not(deliverDown(2, -1), api.ErrDown, ""),
		not(deliverDown(1, 0), api.ErrNone, ""), // root 1 is up
		ok(doubleUp(1, 0), "0 down; 1 ?1.1.1; 2 down; 7 1 1/1.1.1 2/1.1.1; 1>0 yes 1.1.1, yes 1.1.1; 0>2 prepare 1.1.1"),
		ok(doubleDown(2, 0), "0 down; 1 ?1.1.1; 2 down; 7 1 1/1.1.1 2/1.1.1; 1>0 yes 1.1.1, yes 1.1.1; 0>2 prepare 1.1.1, prepare 1.1.1"),
		ok(dropUp(1, 0), "0 down; 1 ?1.1.1; 2 down; 7 1 1/1.1.1 2/1.1.1; 1>0 yes 1.1.1; 0>2 prepare 1.1.1, prepare 1.1.1"),
		ok(dropDown(2, 0), "0 down; 1 ?1.1.1; 2 down; 7 1 1/1.1.1 2/1.1.1; 1>0 yes 1.1.1; 0>2 prepare 1.1.1"),
		ok(crash(7), ""), ok(start(2), ""),
		ok(deliverDown(2, 0), "0 down; 1 ?1.1.1; 2; 7 down; 1>0 yes 1.1.1; [2] prepare 1.1.1")) // nobody asks for the store
}

// A link, and a box, have room for 64 messages; what was under way stays there where the box has none.
func TestFullWires(t *testing.T) {
	h := begun(t, genesis(1, rich(1, 1)))
	must(t, h, ask(1, simple(1, "p")))
	for range 63 {
		must(t, h, doubleDown(1, 0))
	}
	play(t, h, not(doubleDown(1, 0), api.ErrFull, ""), not(doubleDown(1, 64), api.ErrNone, ""))
	for range 64 {
		must(t, h, deliverDown(1, 0))
	}
	must(t, h, tick(0))
	play(t, h, not(deliverDown(1, 0), api.ErrFull, ""), not(deliverDown(1, 1), api.ErrNone, ""))
	if n := len(h.net.Link(0, 1)); n != 1 {
		t.Fatalf("%d are under way", n)
	}
	for range 63 {
		must(t, h, doubleDown(1, 0))
	}
	must(t, h, tick(0)) // there is no room for one more: it is lost
	if n := len(h.net.Link(0, 1)); n != 64 {
		t.Fatalf("%d are under way", n)
	}
	tells(t, h, round(), number(64+64)) // none is delivered to root 1; it takes what it has, and its answers but for one that is lost
	tells(t, h, round(), number(64+64))
}

// P21.5

func TestTakeOfAnEmptyBox(t *testing.T) {
	h := begun(t, genesis(2, rich(1, 1, 2)))
	must(t, h, ask(1, simple(1, "p")))
	play(t, h, not(take(0), api.ErrNone, ""), not(take(1), api.ErrNone, ""), not(take(2), api.ErrNone, ""),
		ok(deliverDown(1, 0), ""), not(take(2), api.ErrNone, ""), ok(take(1), ""), not(take(1), api.ErrNone, ""),
		ok(crash(2), ""), not(take(2), api.ErrDown, ""))
}

// The first message that was delivered is taken first.
func TestTakeInOrder(t *testing.T) {
	h := begun(t, genesis(1, rich(1, 1)))
	must(t, h, ask(1, simple(1, "p")), tick(0), tick(0), tick(0)) // prepares, and an abort
	play(t, h,
		ok(deliverDown(1, 3), "0; 1; 7 1; 0>1 prepare 1.1.1, prepare 1.1.1, prepare 1.1.1; [1] abort 1.1.1"),
		ok(deliverDown(1, 0), "0; 1; 7 1; 0>1 prepare 1.1.1, prepare 1.1.1; [1] abort 1.1.1, prepare 1.1.1"),
		ok(take(1), "0; 1; 7 1; 0>1 prepare 1.1.1, prepare 1.1.1; [1] prepare 1.1.1"),
		ok(take(1), "0; 1 ?1.1.1; 7 1; 0>1 prepare 1.1.1, prepare 1.1.1; 1>0 yes 1.1.1"))
}

// What a root does when messages come, with the store up.
func TestARootTakes(t *testing.T) {
	h := begun(t, genesis(2, rich(1, 1, 2)))
	play(t, h,
		told(ask(1, simple(1, "p"), simple(2, "p")), txn(1, 1, 1), ""),
		ok(doubleDown(1, 0), ""), ok(deliverDown(1, 0), ""), ok(deliverDown(1, 0), ""),
		ok(take(1), "0 1.1.1(1); 1 ?1.1.1; 2; 7 1 1/1.1.1 2/1.1.1; [1] prepare 1.1.1; 1>0 yes 1.1.1; 0>2 prepare 1.1.1"),
		ok(take(1), "0 1.1.1(1); 1 ?1.1.1; 2; 7 1 1/1.1.1 2/1.1.1; 1>0 yes 1.1.1, yes 1.1.1; 0>2 prepare 1.1.1"))
	if p, ok := h.Part(1); !ok || p.Root != 1 || p.Staged != txn(1, 1, 1) || len(p.Done) != 0 || len(h.Stack(1)) != 0 {
		t.Fatal(p)
	}
}

// behindCommit is a host of one root, whose first transaction is written down; its commit is in the root's box.
func behindCommit(t *testing.T) *Host {
	t.Helper()
	h := begun(t, genesis(1, rich(1, 1)))
	must(t, h, ask(1, simple(1, "p")), deliverDown(1, 0), take(1), deliverUp(1, 0), take(0), deliverDown(1, 0))
	if got := brief(h); got != "0 1.1.1(3) book 1.1.1; 1 ?1.1.1; 7 1 1/1.1.1; [1] commit 1.1.1" {
		t.Fatal(got)
	}
	return h
}

func TestARootCommits(t *testing.T) {
	h := behindCommit(t)
	must(t, h, tick(0))
	play(t, h,
		ok(take(1), "0 1.1.1(3) book 1.1.1; 1 !1.1.1 p-1; 7 1 1/own; 0>1 commit 1.1.1; 1>0 ack 1.1.1"),
		ok(deliverDown(1, 0), ""),
		ok(take(1), "0 1.1.1(3) book 1.1.1; 1 !1.1.1 p-1; 7 1 1/own; 1>0 ack 1.1.1, ack 1.1.1"),
		ok(deliverUp(1, 0), ""),
		ok(take(0), "0 book 1.1.1; 1 !1.1.1 p-1; 7 1 1/own; 1>0 ack 1.1.1"),
		ok(deliverUp(1, 0), ""), ok(take(0), "0 book 1.1.1; 1 !1.1.1 p-1; 7 1 1/own"))
}

// A root that can't settle does not acknowledge: neither at once, nor when it is asked again, until the store is up.
func TestARootCommitsWithTheStoreDown(t *testing.T) {
	h := behindCommit(t)
	play(t, h,
		ok(crash(7), ""),
		ok(take(1), "0 1.1.1(3) book 1.1.1; 1 !1.1.1 p-1; 7 down"),
		ok(tick(1), "0 1.1.1(3) book 1.1.1; 1 !1.1.1 p-1; 7 down"),
		ok(tick(0), ""), ok(deliverDown(1, 0), ""),
		ok(take(1), "0 1.1.1(3) book 1.1.1; 1 !1.1.1 p-1; 7 down"),
		ok(start(7), "0 1.1.1(3) book 1.1.1; 1 !1.1.1 p-1; 7 1 1/1.1.1"),
		ok(tick(1), "0 1.1.1(3) book 1.1.1; 1 !1.1.1 p-1; 7 1 1/own"), // its tick settles, but does not acknowledge
		ok(tick(0), ""), ok(deliverDown(1, 0), ""),
		ok(take(1), "0 1.1.1(3) book 1.1.1; 1 !1.1.1 p-1; 7 1 1/own; 1>0 ack 1.1.1"))
}

// The sixth example of the whole.
func TestARootGoesDownBehindItsCommit(t *testing.T) {
	h := behindCommit(t)
	play(t, h,
		ok(crash(7), ""), ok(take(1), ""), ok(crash(1), ""), ok(start(7), ""),
		ok(start(1), "0 1.1.1(3) book 1.1.1; 1 !1.1.1 p-1; 7 1 1/1.1.1"),
		ok(tick(1), "0 1.1.1(3) book 1.1.1; 1 !1.1.1 p-1; 7 1 1/own"))
}

// Nothing is staged as long as what was committed last is not settled.
func TestARootStagesWithTheStoreDown(t *testing.T) {
	h := behindCommit(t)
	must(t, h, crash(7), take(1), start(7), crash(0), start(0)) // committed, not settled; it is recalled
	must(t, h, dropDown(1, 0))
	h.net.Send(api.Msg{Kind: api.MsPrepare, To: 1, Txn: txn(1, 1, 9)})
	must(t, h, deliverDown(1, 0), crash(7))
	play(t, h,
		ok(take(1), "0 1.1.1(3) book 1.1.1; 1 !1.1.1 p-1; 7 down"), // neither staged, nor a vote
		ok(start(7), ""))
	h.net.Send(api.Msg{Kind: api.MsPrepare, To: 1, Txn: txn(1, 1, 9)})
	play(t, h,
		ok(deliverDown(1, 0), ""),
		ok(take(1), "0 1.1.1(3) book 1.1.1; 1 !1.1.1 ?1.1.9 p-1; 7 1 1/own; 1>0 yes 1.1.9"))
}

// A root with another one staged says no; an abort takes away what is staged, and nothing else.
func TestARootSaysNo(t *testing.T) {
	h := begun(t, genesis(3, rich(1, 1, 2, 3)))
	play(t, h,
		told(ask(1, simple(1, "p"), simple(2, "p")), txn(1, 1, 1), ""),
		ok(deliverDown(1, 0), ""), ok(take(1), ""), ok(dropUp(1, 0), ""), ok(dropDown(2, 0), ""),
		ok(crash(0), ""), ok(start(0), "0; 1 ?1.1.1; 2; 3; 7 1 1/1.1.1 2/1.1.1"),
		told(ask(1, simple(2, "q"), simple(1, "q"), simple(3, "q")), txn(2, 1, 1), ""),
		ok(deliverDown(1, 0), ""),
		ok(take(1), "0 2.1.1(1); 1 ?1.1.1; 2; 3; 7 2 1/1.1.1 1/2.1.1 2/1.1.1 2/2.1.1 3/2.1.1; 1>0 no 2.1.1; 0>2 prepare 2.1.1; 0>3 prepare 2.1.1"),
		ok(deliverUp(1, 0), ""),
		// The third example: the coordinator tells the other roots, and what was held is let go.
		ok(take(0), "0; 1 ?1.1.1; 2; 3; 7 2 1/1.1.1 2/1.1.1; 0>2 prepare 2.1.1, abort 2.1.1; 0>3 prepare 2.1.1, abort 2.1.1"),
		ok(tick(1), "0; 1 ?1.1.1; 2; 3; 7 2 1/1.1.1 2/1.1.1; 1>0 ask 1.1.1; 0>2 prepare 2.1.1, abort 2.1.1; 0>3 prepare 2.1.1, abort 2.1.1"),
		ok(deliverUp(1, 0), ""),
		ok(take(0), "0; 1 ?1.1.1; 2; 3; 7 2 1/1.1.1 2/1.1.1; 0>1 abort 1.1.1; 0>2 prepare 2.1.1, abort 2.1.1; 0>3 prepare 2.1.1, abort 2.1.1"),
		ok(deliverDown(1, 0), ""), ok(deliverDown(2, 0), ""), ok(take(2), ""), ok(deliverDown(2, 0), ""),
		ok(take(1), "0; 1; 2 ?2.1.1; 3; 7 2 1/1.1.1 2/1.1.1; [2] abort 2.1.1; 2>0 yes 2.1.1; 0>3 prepare 2.1.1, abort 2.1.1"),
		ok(take(2), "0; 1; 2; 3; 7 2 1/1.1.1 2/1.1.1; 2>0 yes 2.1.1; 0>3 prepare 2.1.1, abort 2.1.1"),
		ok(deliverDown(3, 1), ""), ok(take(3), "0; 1; 2; 3; 7 2 1/1.1.1 2/1.1.1; 2>0 yes 2.1.1; 0>3 prepare 2.1.1"),
		ok(deliverUp(2, 0), ""), ok(take(0), "0; 1; 2; 3; 7 2 1/1.1.1 2/1.1.1; 0>2 abort 2.1.1; 0>3 prepare 2.1.1"),
		ok(tick(0), "0; 1; 2; 3; 7 2; 0>2 abort 2.1.1; 0>3 prepare 2.1.1")) // the fourth example: what was held for 1.1.1 is freed
}

// A commit of one that is not the last one is acknowledged, and settles nothing.
func TestARootTakesAnOldCommit(t *testing.T) {
	h := begun(t, genesis(1, rich(1, 1)))
	asked(t, h, ask(1, simple(1, "p")))
	rounds(t, h)
	asked(t, h, ask(1, simple(1, "q")))
	must(t, h, deliverDown(1, 0), take(1), deliverUp(1, 0), take(0), deliverDown(1, 0), crash(7))
	must(t, h, take(1), start(7))
	h.net.Send(api.Msg{Kind: api.MsCommit, To: 1, Txn: txn(1, 1, 1)})
	h.net.Send(api.Msg{Kind: api.MsAbort, To: 1, Txn: txn(1, 1, 1)})
	h.net.Send(api.Msg{Kind: api.MsPrepare, To: 1, Txn: txn(1, 1, 1)})
	h.net.Send(api.Msg{Kind: api.MsCommit, To: 1, Txn: txn(1, 1, 7)})
	must(t, h, deliverDown(1, 0), deliverDown(1, 0), deliverDown(1, 0), deliverDown(1, 0))
	stand := "0 1.1.2(3) book 1.1.1 1.1.2; 1 !1.1.1 !1.1.2 p-1 q-1; 7 2 1/own 1/1.1.2"
	play(t, h,
		ok(take(1), stand+"; [1] abort 1.1.1, prepare 1.1.1, commit 1.1.7; 1>0 ack 1.1.1"),
		ok(take(1), stand+"; [1] prepare 1.1.1, commit 1.1.7; 1>0 ack 1.1.1"),
		ok(take(1), stand+"; [1] commit 1.1.7; 1>0 ack 1.1.1"),
		ok(take(1), stand+"; 1>0 ack 1.1.1"))
}

// strikes are fuses at a node that strike at the next step, one for each of the writes and flushes that it does: the node is down, and its box is lost.
func strikes(t *testing.T, node int, begin func() *Host, s api.Step, want api.Told, stand string) {
	t.Helper()
	h := begin()
	ahead := h.disks[node].Done()
	must(t, h, s)
	writes := h.disks[node].Done() - ahead
	if writes < 4 { // a block, a flush, a head, a flush
		t.Fatalf("%s writes %d times", stepText(s), writes)
	}
	for n := range writes {
		h = begin()
		play(t, h, ok(fuse(node, n), ""), event{s, want, stand})
		if h.Up(node) || h.disks[node].Up() || len(h.net.Box(node)) != 0 {
			t.Fatalf("node %d is not down: %s", node, brief(h))
		}
	}
	h = begin() // one more does not strike
	must(t, h, fuse(node, writes), s)
	if !h.Up(node) {
		t.Fatalf("node %d is down: %s", node, brief(h))
	}
}

func TestARootsDiskGoesDown(t *testing.T) {
	stage := func() *Host {
		h := begun(t, genesis(1, rich(1, 1)))
		must(t, h, ask(1, simple(1, "p")), tick(0), deliverDown(1, 0), deliverDown(1, 0))
		return h
	}
	strikes(t, 1, stage, take(1), api.Told{}, "0 1.1.1(1); 1 down; 7 1 1/1.1.1")
	commit := func() *Host {
		h := behindCommit(t)
		must(t, h, tick(0), deliverDown(1, 0))
		return h
	}
	strikes(t, 1, commit, take(1), api.Told{}, "0 1.1.1(3) book 1.1.1; 1 down; 7 1 1/1.1.1")
	abort := func() *Host {
		h := begun(t, genesis(1, rich(1, 1)))
		must(t, h, ask(1, simple(1, "p")), deliverDown(1, 0), take(1), dropUp(1, 0), tick(0), tick(0), tick(0), deliverDown(1, 2), deliverDown(1, 0))
		return h
	}
	strikes(t, 1, abort, take(1), api.Told{}, "0; 1 down; 7 1; 0>1 prepare 1.1.1")
}

func TestTheStoresDiskGoesDown(t *testing.T) {
	strikes(t, 7, func() *Host { return behindCommit(t) }, take(1), api.Told{}, "0 1.1.1(3) book 1.1.1; 1 !1.1.1 p-1; 7 down")
	settle := func() *Host {
		h := behindCommit(t)
		must(t, h, crash(7), take(1), start(7))
		return h
	}
	strikes(t, 7, settle, tick(1), api.Told{}, "0 1.1.1(3) book 1.1.1; 1 !1.1.1 p-1; 7 down")
	swept := func() *Host {
		h := begun(t, genesis(1, rich(1, 1)))
		must(t, h, ask(1, simple(1, "p")), tick(0), tick(0), tick(0), dropDown(1, 0), dropDown(1, 0), dropDown(1, 0), dropDown(1, 0))
		return h
	}
	strikes(t, 7, swept, sweep(), refused(api.ErrDown), "0; 1; 7 down")
	forget := func() *Host {
		h := begun(t, genesis(1, rich(1, 1)))
		must(t, h, ask(1, simple(1, "p")), tick(0), tick(0))
		return h
	}
	strikes(t, 7, forget, tick(0), api.Told{}, "0; 1; 7 down; 0>1 prepare 1.1.1, prepare 1.1.1, prepare 1.1.1, abort 1.1.1")
	unknown := func() *Host {
		h := begun(t, genesis(1, rich(1, 1)))
		must(t, h, ask(1, simple(1, "p")), crash(0), start(0))
		return h
	}
	strikes(t, 7, unknown, tick(0), api.Told{}, "0; 1; 7 down; 0>1 prepare 1.1.1")
}

// A request on whose way the store goes down is told so: nothing is begun, and its number is not told again.
func TestTheStoreGoesDownAtARequest(t *testing.T) {
	begin := func() *Host { return begun(t, genesis(2, rich(1, 1, 2))) }
	s := ask(1, install(1, "p", "1", layerOf(file("a", "a")), layerOf(file("b", "b"))), simple(2, "q"))
	strikes(t, 7, begin, s, refused(api.ErrDown), "0; 1; 2; 7 down")
	h := begin()
	ahead := h.disks[7].Done()
	must(t, h, s)
	writes := h.disks[7].Done() - ahead
	pins := map[int]bool{}
	for n := range writes {
		for _, keep := range [][]int{nil, {1, 1, 1, 1, 1, 1, 1, 1}} {
			h := begin()
			play(t, h, ok(fuse(7, n), ""), not(s, api.ErrDown, "0; 1; 2; 7 down"), not(ask(1, simple(1, "x")), api.ErrDown, ""), ok(crash(7, keep...), ""), ok(start(7), ""))
			pins[len(h.Holds())] = true
			tells(t, h, ask(1, simple(1, "p")), number(txn(1, 1, 2)))
			must(t, h, tick(0))
			if got := h.Holds(); !slices.Equal(got, []api.Hold{{Root: 1, Txn: txn(1, 1, 2)}}) {
				t.Fatalf("what the lost request held is not freed: %v", got)
			}
			rounds(t, h)
		}
	}
	if !pins[0] || !pins[1] || !pins[2] {
		t.Fatalf("holds that were left: %v", pins)
	}
}

// A vote that is the last one is written down; the coordinator goes down at any of its writes; then it knows of it, or not, as the disk has it: the fourth and the fifth example.
func TestTheCoordinatorsDiskGoesDown(t *testing.T) {
	begin := func() *Host {
		h := begun(t, genesis(2, rich(1, 1, 2)))
		must(t, h, ask(1, simple(1, "p"), simple(2, "p")), deliverDown(1, 0), take(1), deliverDown(2, 0), take(2), deliverUp(2, 0), take(0), doubleUp(1, 0), deliverUp(1, 0), deliverUp(1, 0))
		return h
	}
	strikes(t, 0, begin, take(0), api.Told{}, "0 down; 1 ?1.1.1; 2 ?1.1.1; 7 1 1/1.1.1 2/1.1.1")
	h := begin()
	ahead := h.disks[0].Done()
	play(t, h, ok(take(0), "0 1.1.1(3) book 1.1.1; 1 ?1.1.1; 2 ?1.1.1; 7 1 1/1.1.1 2/1.1.1; 0>1 commit 1.1.1; 0>2 commit 1.1.1; [0] yes 1.1.1"))
	writes := h.disks[0].Done() - ahead
	for _, isKept := range []bool{false, true} {
		h := begin()
		var keep []int
		stand := "0; 1 ?1.1.1; 2 ?1.1.1; 7 1 1/1.1.1 2/1.1.1"
		end := "0; 1; 2; 7 1"
		if isKept {
			keep = []int{1, 1, 1, 1, 1, 1, 1, 1, 1}
			stand = "0 1.1.1(3) book 1.1.1; 1 ?1.1.1; 2 ?1.1.1; 7 1 1/1.1.1 2/1.1.1; 0>1 commit 1.1.1; 0>2 commit 1.1.1"
			end = "0 book 1.1.1; 1 !1.1.1 p-1; 2 !1.1.1 p-1; 7 1 1/own 2/own"
		}
		play(t, h, ok(fuse(0, writes-1), ""), ok(take(0), "0 down; 1 ?1.1.1; 2 ?1.1.1; 7 1 1/1.1.1 2/1.1.1"),
			not(start(0), api.ErrDown, ""), not(fuse(0, 5), api.ErrDown, ""), ok(crash(0, keep...), ""), ok(start(0), stand))
		rounds(t, h)
		if got := brief(h); got != end {
			t.Fatalf("%s, want %s", got, end)
		}
	}
}

// Where the book has no room for it the transaction is given up: all its roots are told, what was held is let go, and what it reserved.
func TestTheBookIsFull(t *testing.T) {
	g := genesis(2, tenant(1, 12, 1, 2))
	g.Blocks = 64
	h := begun(t, g)
	for k := 1; ; k++ {
		want := []api.Want{simple(1, fmt.Sprint("p", k%2)), simple(2, fmt.Sprint("p", k%2))}
		if k > 1 {
			want = append(want, remove(1, fmt.Sprint("p", (k-1)%2)), remove(2, fmt.Sprint("p", (k-1)%2)))
		}
		number := asked(t, h, ask(1, want...))
		must(t, h, deliverDown(1, 0), take(1), deliverDown(2, 0), take(2), deliverUp(1, 0), take(0), deliverUp(2, 0))
		order := h.Order()
		must(t, h, take(0))
		if h.Up(0) && !slices.Contains(h.Order(), number) {
			if k < 3 || k > 20 {
				t.Fatalf("the book is full at the %d-th: %s", k, brief(h))
			}
			abort := "abort " + nameOf(number)
			if !slices.Equal(h.Order(), order) || len(h.Open()) != 0 || !slices.Equal(h.Holds(), []api.Hold{{Root: 1}, {Root: 2}}) || messages(h.net.Link(0, 1)) != abort || messages(h.net.Link(0, 2)) != abort {
				t.Fatalf("%s", brief(h))
			}
			tells(t, h, state(1, number), api.Told{})
			play(t, h, not(ask(1, simple(1, "xxx"), simple(2, "xxx")), api.ErrQuota, "")) // it has 8 bytes of 12
			rounds(t, h)
			asked(t, h, ask(1, simple(1, "xx")))
			return
		}
		rounds(t, h)
	}
}

// When all have acknowledged the book closes it: from then on it is not recalled.
func TestClosing(t *testing.T) {
	begin := func() *Host {
		h := begun(t, genesis(2, rich(1, 1, 2)))
		must(t, h, ask(1, simple(1, "p"), simple(2, "p")), round())
		must(t, h, deliverDown(1, 0), take(1), deliverDown(2, 0), take(2), dropDown(1, 0), dropDown(2, 0), dropDown(2, 0), deliverUp(1, 0), take(0), deliverUp(2, 0))
		if got := brief(h); got != "0 1.1.1(3) book 1.1.1; 1 !1.1.1 p-1; 2 !1.1.1 p-1; 7 1 1/own 2/own; [0] ack 1.1.1" {
			t.Fatal(got)
		}
		return h
	}
	recalled := "0 1.1.1(3) book 1.1.1; 1 !1.1.1 p-1; 2 !1.1.1 p-1; 7 1 1/own 2/own; 0>1 commit 1.1.1; 0>2 commit 1.1.1"
	h := begin()
	play(t, h, ok(crash(0), ""), ok(start(0), recalled))
	h = begin()
	play(t, h, ok(take(0), "0 book 1.1.1; 1 !1.1.1 p-1; 2 !1.1.1 p-1; 7 1 1/own 2/own"), ok(crash(0), ""), ok(start(0), "0 book 1.1.1; 1 !1.1.1 p-1; 2 !1.1.1 p-1; 7 1 1/own 2/own"))
	strikes(t, 0, begin, take(0), api.Told{}, "0 down; 1 !1.1.1 p-1; 2 !1.1.1 p-1; 7 1 1/own 2/own")
	h = begin()
	play(t, h, ok(fuse(0, 0), ""), ok(take(0), ""), ok(crash(0), ""), ok(start(0), recalled))
}

// Forgetting lets go what is held if the store is up; else a tick does, when it is.
func TestForgettingWithTheStoreDown(t *testing.T) {
	h := begun(t, genesis(2, rich(1, 1, 2)))
	play(t, h,
		told(ask(1, simple(1, "p"), simple(2, "p")), txn(1, 1, 1), ""),
		ok(tick(0), ""), ok(tick(0), ""), ok(crash(7), ""),
		ok(tick(0), "0; 1; 2; 7 down; 0>1 prepare 1.1.1, prepare 1.1.1, prepare 1.1.1, abort 1.1.1; 0>2 prepare 1.1.1, prepare 1.1.1, prepare 1.1.1, abort 1.1.1"),
		ok(tick(0), ""), ok(start(7), "0; 1; 2; 7 1 1/1.1.1 2/1.1.1; 0>1 prepare 1.1.1, prepare 1.1.1, prepare 1.1.1, abort 1.1.1; 0>2 prepare 1.1.1, prepare 1.1.1, prepare 1.1.1, abort 1.1.1"),
		ok(tick(1), ""), ok(tick(2), ""),
		ok(tick(0), "0; 1; 2; 7 1; 0>1 prepare 1.1.1, prepare 1.1.1, prepare 1.1.1, abort 1.1.1; 0>2 prepare 1.1.1, prepare 1.1.1, prepare 1.1.1, abort 1.1.1"))
}

// The second example of the whole: a yes is lost.
func TestALostVote(t *testing.T) {
	h := begun(t, genesis(2, rich(1, 1, 2)))
	play(t, h,
		told(ask(1, simple(1, "p"), simple(2, "p")), txn(1, 1, 1), ""),
		ok(deliverDown(1, 0), ""), ok(take(1), ""), ok(deliverUp(1, 0), ""), ok(take(0), ""),
		ok(deliverDown(2, 0), ""), ok(take(2), ""), ok(dropUp(2, 0), "0 1.1.1(1); 1 ?1.1.1; 2 ?1.1.1; 7 1 1/1.1.1 2/1.1.1"),
		ok(tick(0), "0 1.1.1(1); 1 ?1.1.1; 2 ?1.1.1; 7 1 1/1.1.1 2/1.1.1; 0>2 prepare 1.1.1"),
		ok(deliverDown(2, 0), ""), ok(take(2), "0 1.1.1(1); 1 ?1.1.1; 2 ?1.1.1; 7 1 1/1.1.1 2/1.1.1; 2>0 yes 1.1.1"),
		ok(deliverUp(2, 0), ""), ok(take(0), "0 1.1.1(3) book 1.1.1; 1 ?1.1.1; 2 ?1.1.1; 7 1 1/1.1.1 2/1.1.1; 0>1 commit 1.1.1; 0>2 commit 1.1.1"))
}

// P21.6

func TestTickOfARoot(t *testing.T) {
	h := begun(t, genesis(1, rich(1, 1)))
	play(t, h,
		ok(tick(1), "0; 1; 7 0"),
		told(ask(1, simple(1, "p")), txn(1, 1, 1), ""), ok(deliverDown(1, 0), ""), ok(take(1), ""), ok(dropUp(1, 0), ""),
		ok(tick(1), "0 1.1.1(1); 1 ?1.1.1; 7 1 1/1.1.1; 1>0 ask 1.1.1"),
		ok(tick(1), "0 1.1.1(1); 1 ?1.1.1; 7 1 1/1.1.1; 1>0 ask 1.1.1, ask 1.1.1"),
		ok(deliverUp(1, 0), ""), ok(take(0), "0 1.1.1(1); 1 ?1.1.1; 7 1 1/1.1.1; 1>0 ask 1.1.1"),
		ok(crash(1), ""), not(tick(1), api.ErrDown, ""))
}

func TestTickOfTheCoordinator(t *testing.T) {
	h := begun(t, genesis(2, rich(1, 1, 2), rich(2, 2)))
	play(t, h,
		ok(tick(0), "0; 1; 2; 7 0"),
		told(ask(1, simple(1, "p")), txn(1, 1, 1), ""), ok(tick(0), ""),
		told(ask(2, simple(2, "p")), txn(1, 2, 1), "0 1.1.1(1) 1.2.1(1); 1; 2; 7 1 1/1.1.1 2/1.2.1; 0>1 prepare 1.1.1, prepare 1.1.1; 0>2 prepare 1.2.1"),
		ok(dropDown(1, 0), ""), ok(dropDown(1, 0), ""), ok(dropDown(2, 0), ""),
		ok(tick(0), "0 1.1.1(1) 1.2.1(1); 1; 2; 7 1 1/1.1.1 2/1.2.1; 0>1 prepare 1.1.1; 0>2 prepare 1.2.1"), // sent again: the second example
		ok(tick(0), "0 1.2.1(1); 1; 2; 7 1 2/1.2.1; 0>1 prepare 1.1.1, abort 1.1.1; 0>2 prepare 1.2.1, prepare 1.2.1"),
		ok(tick(0), "0; 1; 2; 7 1; 0>1 prepare 1.1.1, abort 1.1.1; 0>2 prepare 1.2.1, prepare 1.2.1, abort 1.2.1"),
		ok(crash(0), ""), not(tick(0), api.ErrDown, ""))
	h = behindCommit(t)
	play(t, h, ok(tick(0), "0 1.1.1(3) book 1.1.1; 1 ?1.1.1; 7 1 1/1.1.1; 0>1 commit 1.1.1; [1] commit 1.1.1"))
}

// Of holds with a Txn a tick frees those that nobody knows of, not those of an open transaction, nor of one in the book, open or closed.
func TestTickFreesWhatNobodyKnows(t *testing.T) {
	h := begun(t, genesis(3, rich(1, 1, 2, 3)))
	asked(t, h, ask(1, simple(1, "p")))
	rounds(t, h)
	asked(t, h, ask(1, simple(2, "q")))
	must(t, h, deliverDown(2, 0), take(2), deliverUp(2, 0), take(0)) // in the book, not closed
	asked(t, h, ask(1, simple(3, "r")))                              // voting
	x := h.Blobs()[:1]
	for _, hold := range []api.Hold{{Root: 1, Txn: txn(1, 1, 1)}, {Root: 3, Txn: txn(1, 1, 1)}, {Root: 1, Txn: txn(1, 1, 2)}, {Root: 1, Txn: txn(1, 1, 3)}, {Root: 1, Txn: txn(1, 1, 4)}, {Root: 5, Txn: 1}, {Root: 6, Txn: 1 << 40}, {Root: 6}} {
		h.store.Hold(hold, x)
	}
	want := []api.Hold{{Root: 1}, {Root: 1, Txn: txn(1, 1, 1)}, {Root: 1, Txn: txn(1, 1, 2)}, {Root: 1, Txn: txn(1, 1, 3)}, {Root: 2, Txn: txn(1, 1, 2)}, {Root: 3, Txn: txn(1, 1, 1)}, {Root: 3, Txn: txn(1, 1, 3)}, {Root: 6}}
	must(t, h, tick(2), tick(3), sweep())
	if len(h.Holds()) != len(want)+3 {
		t.Fatalf("%v", h.Holds())
	}
	must(t, h, tick(0))
	if got := h.Holds(); !slices.Equal(got, want) {
		t.Fatalf("%v, want %v", got, want)
	}
}

// P21.7

func TestCrash(t *testing.T) {
	for _, node := range []int{0, 1, 2, 7} {
		h := begun(t, genesis(2, rich(1, 1, 2)))
		must(t, h, ask(1, simple(1, "p"), simple(2, "p")), deliverDown(1, 0), take(1), tick(0), deliverDown(1, 0), deliverDown(2, 0), deliverUp(1, 0))
		boxes := []string{"[0] yes 1.1.1", "[1] prepare 1.1.1", "[2] prepare 1.1.1"}
		ahead := brief(h)
		want := ahead
		if node < 3 { // what is in its box is lost; what is under way is not
			want = strings.Replace(want, "; "+boxes[node], "", 1)
		}
		down := map[int][2]string{0: {"0 1.1.1(1);", "0 down;"}, 1: {"; 1 ?1.1.1;", "; 1 down;"}, 2: {"; 2;", "; 2 down;"}, 7: {"7 1 1/1.1.1 2/1.1.1", "7 down"}}[node]
		want = strings.Replace(want, down[0], down[1], 1)
		play(t, h, ok(crash(node), want), ok(crash(node), want), ok(crash(node, 5, -1, 7), want))
		if h.Up(node) || h.Quiet() {
			t.Fatalf("node %d is up", node)
		}
		must(t, h, start(node))
		want = ahead
		if node < 3 {
			want = strings.Replace(want, "; "+boxes[node], "", 1)
		}
		if node == 0 {
			want = strings.Replace(want, "0 1.1.1(1);", "0;", 1)
		}
		if got := brief(h); got != want {
			t.Fatalf("%s, want %s", got, want)
		}
	}
}

// What waited on a disk is kept as Keep says, at the first crash behind it.
func TestCrashKeeps(t *testing.T) {
	s := ask(1, simple(1, "p"))
	h := begun(t, genesis(1, rich(1, 1)))
	ahead := h.disks[7].Done()
	must(t, h, s)
	writes := h.disks[7].Done() - ahead
	for _, x := range []struct {
		keep []int
		want string
	}{{nil, "0; 1; 7 1"}, {[]int{0}, "0; 1; 7 1"}, {[]int{-1}, "0; 1; 7 1"}, {[]int{2}, "0; 1; 7 1"}, {[]int{1}, "0; 1; 7 1 1/1.1.1"}, {[]int{3, 1, 1}, "0; 1; 7 1 1/1.1.1"}} {
		h := begun(t, genesis(1, rich(1, 1)))
		play(t, h, ok(fuse(7, writes-1), ""), not(s, api.ErrDown, "0; 1; 7 down")) // the last flush: the head of what it holds waits
		if w := h.disks[7].Waiting(); len(w) != 1 || w[0].N != 1 {
			t.Fatalf("%v", w)
		}
		play(t, h, ok(crash(7, x.keep...), "0; 1; 7 down"), ok(crash(7, 1, 1, 1), "0; 1; 7 down"), ok(start(7), x.want))
	}
}

func TestStart(t *testing.T) {
	h := installed(t)
	for _, node := range []int{0, 1, 2, 7} {
		ahead := brief(h)
		play(t, h, not(start(node), api.ErrState, ""), ok(crash(node), ""), ok(start(node), ahead), not(start(node), api.ErrState, ""))
		if !h.Quiet() {
			t.Fatal(looks(h))
		}
	}
}

// A coordinator that stands up sends commits of what its book has left, in the book's order, to each of its roots.
func TestRecall(t *testing.T) {
	h := begun(t, genesis(4, rich(1, 1, 2, 3, 4), rich(2, 1, 2, 3, 4)))
	vote := func(roots ...int) {
		for _, root := range roots {
			must(t, h, deliverDown(root, 0), take(root), deliverUp(root, 0), take(0))
		}
	}
	asked(t, h, ask(2, simple(4, "a"), simple(2, "a")))
	asked(t, h, ask(1, simple(3, "b")))
	vote(4, 2, 3)
	asked(t, h, ask(1, simple(1, "c"))) // it is not written down
	for _, root := range []int{2, 3, 4} {
		must(t, h, dropDown(root, 0))
	}
	must(t, h, dropDown(1, 0), crash(0))
	stand := "1; 2 ?1.2.1; 3 ?1.1.1; 4 ?1.2.1; 7 3 1/1.1.2 2/1.2.1 3/1.1.1 4/1.2.1"
	play(t, h,
		ok(tick(1), "0 down; "+stand),
		ok(start(0), "0 1.1.1(3) 1.2.1(3) book 1.2.1 1.1.1; "+stand+"; 0>2 commit 1.2.1; 0>3 commit 1.1.1; 0>4 commit 1.2.1"),
		told(state(1, txn(1, 1, 2)), 0, ""), told(state(1, txn(1, 1, 1)), 3, ""), told(state(2, txn(1, 2, 1)), 3, ""))
	rounds(t, h)
	if got := brief(h); got != "0 book 1.2.1 1.1.1; 1; 2 !1.2.1 a-1; 3 !1.1.1 b-1; 4 !1.2.1 a-1; 7 3 2/own 3/own 4/own" {
		t.Fatal(got)
	}
}

// Those of one root that are left come in the order of the book. (Two are left at one root only where closing was refused: so the book is one that was written by hand.)
func TestRecallInOrder(t *testing.T) {
	d, _ := disk.New(300)
	b, _ := book.Open(d)
	for _, x := range []struct{ txn, owner int }{{txn(1, 2, 1), 2}, {txn(1, 1, 1), 1}, {txn(1, 2, 2), 2}, {txn(1, 1, 2), 1}} {
		l := []api.Ref{{Size: 1}}
		b.Log(x.txn, x.owner, []api.Op{{Kind: api.OpInstall, Root: 1, Name: fmt.Sprint("p", x.txn), Version: "1", Layers: l}})
	}
	b.Close(txn(1, 2, 2))
	h := begun(t, genesis(1, rich(1, 1), rich(2, 1)))
	must(t, h, crash(0))
	h.disks[0] = d
	play(t, h, ok(start(0), "0 1.1.1(3) 1.1.2(3) 1.2.1(3) book 1.2.1 1.1.1 1.2.2 1.1.2; 1; 7 0; 0>1 commit 1.2.1, commit 1.1.1, commit 1.1.2"))
}

// A fuse may be set at a node that is down, but for one whose disk is: it strikes while it is started, and it stays down till it is crashed.
func TestFuseWhileStarting(t *testing.T) {
	h := installed(t)
	must(t, h, crash(0))
	ahead := h.disks[0].Done()
	must(t, h, start(0))
	writes := h.disks[0].Done() - ahead
	if writes < 4 {
		t.Fatalf("a start writes %d times", writes)
	}
	for n := range writes {
		h := installed(t)
		play(t, h, ok(crash(0), ""), ok(fuse(0, n), ""), not(start(0), api.ErrDown, "0 down; 1 !1.1.1 p-1; 2 !1.1.1 p-1; 7 1 1/own 2/own"),
			not(start(0), api.ErrDown, ""), not(fuse(0, 1), api.ErrDown, ""), not(fuse(0, -1), api.ErrDown, ""),
			ok(crash(0), ""), not(fuse(0, -1), api.ErrArg, ""), ok(start(0), "0 book 1.1.1; 1 !1.1.1 p-1; 2 !1.1.1 p-1; 7 1 1/own 2/own"))
		if got := h.boss.book.Epoch(); got != 2 {
			t.Fatalf("epoch %d", got)
		}
	}
	h = installed(t)
	play(t, h, ok(crash(0), ""), ok(fuse(0, writes), ""), ok(start(0), ""))
	for _, node := range []int{1, 2, 7} { // these write nothing while they are started: it strikes later
		h := installed(t)
		stand := brief(h)
		play(t, h, ok(crash(node), ""), ok(fuse(node, 0), ""), ok(start(node), stand))
		x := h.Do(ask(1, simple(1, "q"), simple(2, "q")))
		if node == 7 && x.Err != api.ErrDown || node != 7 && x.Err != api.OK {
			t.Fatalf("node %d: %s", node, tellOf(x))
		}
		must(t, h, round())
		if h.Up(node) {
			t.Fatalf("node %d is up", node)
		}
	}
}

func TestFuse(t *testing.T) {
	h := begun(t, genesis(1, rich(1, 1)))
	play(t, h, not(fuse(1, -1), api.ErrArg, ""), not(fuse(1, math.MinInt), api.ErrArg, ""), ok(fuse(1, math.MaxInt), ""), ok(fuse(1, 0), ""), ok(fuse(1, 100), ""),
		told(ask(1, simple(1, "p")), txn(1, 1, 1), ""), ok(deliverDown(1, 0), ""), ok(take(1), ""), // another one in its place
		ok(fuse(1, 0), ""), ok(tick(1), "0 1.1.1(1); 1 ?1.1.1; 7 1 1/1.1.1; 1>0 yes 1.1.1, ask 1.1.1")) // nothing is written
}
