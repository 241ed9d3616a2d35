package book

import (
	"crypto/sha256"
	"encoding/binary"
	"fmt"
	"math"
	"math/rand"
	"slices"
	"strings"
	"testing"

	"veneer/api"
	"veneer/disk"
	"veneer/kv"
	"veneer/manifest"
	"veneer/plan"
	"veneer/wal"
)

// refs are layers of these sizes; install, upgrade and remove are operations; ops are those that are handed in.

func refs(mark string, sizes ...int) []api.Ref {
	var l []api.Ref
	for i, size := range sizes {
		l = append(l, api.Ref{Sum: sha256.Sum256([]byte(fmt.Sprint(mark, " ", i))), Size: size})
	}
	return l
}

func install(root int, name, version string, sizes ...int) api.Op {
	return api.Op{Kind: 1, Root: root, Name: name, Version: version, Layers: refs(name+" "+version, sizes...)}
}

func upgrade(root int, name, version string, sizes ...int) api.Op {
	op := install(root, name, version, sizes...)
	op.Kind = 2
	return op
}

func remove(root int, name string) api.Op { return api.Op{Kind: 3, Root: root, Name: name} }

func ops(l ...api.Op) []api.Op { return l }

func pack(owner int, name, version string, sizes ...int) api.Pack {
	return api.Pack{Owner: owner, Man: api.Manifest{Name: name, Version: version, Layers: refs(name+" "+version, sizes...)}}
}

func long(c byte, n int) string { return strings.Repeat(string([]byte{c}), n) }

// eights are the sizes of eight layers.
func eights(size int) []int { return slices.Repeat([]int{size}, 8) }

// greatest are operations whose bytes are as many as may be.
func greatest(c byte) []api.Op {
	var l []api.Op
	for i := range 8 {
		l = append(l, install(1+i/2, long(c, 15)+fmt.Sprint(i), long('9', 16), eights(math.MaxInt32)...))
	}
	return l
}

// entry is a transaction that was written down; has is what a book has. Its list is not changed: what changes is another one.

type entry struct {
	txn, owner int
	ops        []api.Op
	closed     bool
}

type has struct {
	epoch   int
	entries []entry
}

func (x entry) String() string {
	out := fmt.Sprintf("%d of %d:", x.txn, x.owner)
	for _, op := range x.ops {
		out += fmt.Sprintf(" %d@%d %.20q %.20q(%d)", op.Kind, op.Root, op.Name, op.Version, len(op.Layers))
	}
	if x.closed {
		out += ", closed"
	}
	return out
}

func (x has) String() string { return fmt.Sprintf("epoch %d, %v", x.epoch, x.entries) }

func sameOp(a, b api.Op) bool {
	return a.Kind == b.Kind && a.Root == b.Root && a.Name == b.Name && a.Version == b.Version && slices.Equal(a.Layers, b.Layers)
}

func sameEntry(a, b entry) bool {
	return a.txn == b.txn && a.owner == b.owner && a.closed == b.closed && slices.EqualFunc(a.ops, b.ops, sameOp)
}

// is tells whether the entries are the same; epochs are looked at elsewhere.
func (x has) is(y has) bool { return slices.EqualFunc(x.entries, y.entries, sameEntry) }

// find is the place of an entry, or -1.
func (x has) find(txn int) int {
	return slices.IndexFunc(x.entries, func(y entry) bool { return y.txn == txn })
}

// stacks is what the operations of all entries leave, by the words of chapter 18: those that were written down were let through.
func (x has) stacks() [][]api.Pack {
	out := make([][]api.Pack, 6)
	for _, y := range x.entries {
		for _, op := range y.ops {
			stack := slices.Clone(out[op.Root-1])
			at := slices.IndexFunc(stack, func(p api.Pack) bool { return p.Man.Name == op.Name })
			laid := api.Pack{Owner: y.owner, Man: api.Manifest{Name: op.Name, Version: op.Version, Layers: op.Layers}}
			switch op.Kind {
			case 1:
				stack = append(stack, laid)
			case 2:
				stack[at] = laid
			case 3:
				stack = append(stack[:at], stack[at+1:]...)
			}
			out[op.Root-1] = stack
		}
	}
	return out
}

func samePack(a, b api.Pack) bool {
	return a.Owner == b.Owner && a.Man.Name == b.Man.Name && a.Man.Version == b.Man.Version && slices.Equal(a.Man.Layers, b.Man.Layers)
}

func sameStacks(a, b [][]api.Pack) bool {
	return slices.EqualFunc(a, b, func(x, y []api.Pack) bool { return slices.EqualFunc(x, y, samePack) })
}

// The keys and values in the database, as the chapter tells them.

func eight(n uint64) string { return string(binary.BigEndian.AppendUint64(nil, n)) }

func text(s string) string { return string(binary.AppendUvarint(nil, uint64(len(s)))) + s }

func one(n int) string { return string([]byte{byte(n)}) }

func putOfEpoch(n uint64) api.Put { return api.Put{Key: "e", Value: eight(n)} }

func putOfClosed(txn uint64) api.Put { return api.Put{Key: "x" + eight(txn)} }

func place(k uint64, i int) string { return "k" + eight(k) + one(i) }

func lineOf(txn uint64, owner, count int, op api.Op) string {
	out := eight(txn) + one(owner) + one(count) + one(op.Kind) + one(op.Root)
	if op.Kind == 3 {
		return out + op.Name
	}
	out += "VM\x01" + text(op.Name) + text(op.Version) + one(len(op.Layers))
	for _, x := range op.Layers {
		out += string(x.Sum[:]) + string(binary.AppendUvarint(nil, uint64(x.Size)))
	}
	return out
}

// putsAt are the keys and values of the k-th entry.
func (x entry) putsAt(k int) []api.Put {
	var out []api.Put
	for i, op := range x.ops {
		out = append(out, api.Put{Key: place(uint64(k), i), Value: lineOf(uint64(x.txn), x.owner, len(x.ops), op)})
	}
	return out
}

// puts are all of what a book has, rising.
func (x has) puts() []api.Put {
	var out []api.Put
	if x.epoch != 0 {
		out = append(out, putOfEpoch(uint64(x.epoch)))
	}
	for k, y := range x.entries {
		out = append(out, y.putsAt(k)...)
		if y.closed {
			out = append(out, putOfClosed(uint64(y.txn)))
		}
	}
	return slices.SortedFunc(slices.Values(out), func(a, b api.Put) int { return strings.Compare(a.Key, b.Key) })
}

// understood is what Open must make of keys and values, ahead of another epoch: it looks for each fault that the chapter's words leave.
func understood(l []api.Put) (has, api.Errno) {
	var x has
	lines, closed := map[uint64]map[int]string{}, map[uint64]bool{}
	for _, p := range l {
		switch {
		case p.Key == "e" && len(p.Value) == 8:
			n := binary.BigEndian.Uint64([]byte(p.Value))
			if n < 1 || n > 1<<20-1 {
				return has{}, api.ErrForm
			}
			x.epoch = int(n)
		case len(p.Key) == 10 && p.Key[0] == 'k' && len(p.Value) >= 12:
			k := binary.BigEndian.Uint64([]byte(p.Key[1:9]))
			if lines[k] == nil {
				lines[k] = map[int]string{}
			}
			lines[k][int(p.Key[9])] = p.Value
		case len(p.Key) == 9 && p.Key[0] == 'x' && p.Value == "":
			closed[binary.BigEndian.Uint64([]byte(p.Key[1:]))] = true
		default:
			return has{}, api.ErrForm
		}
	}
	for k := range len(lines) {
		y, ok := entryIn(lines[uint64(k)])
		if !ok || x.find(y.txn) >= 0 {
			return has{}, api.ErrForm
		}
		if _, _, e := plan.All(x.stacks(), y.owner, y.ops); e != api.OK {
			return has{}, api.ErrForm
		}
		y.closed = closed[uint64(y.txn)]
		delete(closed, uint64(y.txn))
		x.entries = append(x.entries, y)
	}
	if len(closed) > 0 {
		return has{}, api.ErrForm
	}
	return x, api.OK
}

// entryIn puts an entry's lines together: whether there is each from 0 on, and all say the same number, owner and count.
func entryIn(lines map[int]string) (entry, bool) {
	var y entry
	for i := range len(lines) {
		line, ok := lines[i]
		if !ok || line[:10] != lines[0][:10] || int(line[9]) != len(lines) {
			return y, false
		}
		op := api.Op{Kind: int(line[10]), Root: int(line[11])}
		if op.Kind == 3 {
			op.Name = line[12:]
		} else {
			m, e := manifest.Decode([]byte(line[12:]))
			if e != api.OK {
				return y, false
			}
			op.Name, op.Version, op.Layers = m.Name, m.Version, m.Layers
		}
		y.ops = append(y.ops, op)
	}
	if len(lines) == 0 {
		return y, false
	}
	n := binary.BigEndian.Uint64([]byte(lines[0][:8]))
	y.txn, y.owner = int(n), int(lines[0][8])
	return y, n >= 1 && n <= 1<<40
}

// What is on a disk

func newDisk(t *testing.T, n int) *disk.Disk {
	t.Helper()
	d, e := disk.New(n)
	if e != api.OK {
		t.Fatalf("disk.New(%d) = %d", n, int(e))
	}
	return d
}

// durable is what a disk has behind any loss of power.
func durable(d *disk.Disk) string { return string(slices.Concat(d.Image()...)) }

// keysOn are the keys and values that a disk has behind a loss of power that keeps these writes.
func keysOn(d *disk.Disk, keep []int) []api.Put {
	c := d.Copy()
	c.Crash(keep)
	db, _ := kv.Open(c)
	return db.Scan("", "")
}

// shown is keys and values as a text.
func shown(l []api.Put) string {
	var out strings.Builder
	for _, p := range l {
		fmt.Fprintf(&out, " %q: %q,", p.Key, p.Value)
	}
	return out.String()
}

// looks is what a disk tells: whether it is up, how much was done, what waits, and which keys it has, whether all that waits is lost or kept. In which order a batch has its changes the chapter does not say.
func looks(d *disk.Disk) string {
	var all []int
	for _, w := range d.Waiting() {
		all = append(all, w.N)
	}
	return fmt.Sprint(d.Up(), d.Done(), d.Waiting(), shown(keysOn(d, nil)), shown(keysOn(d, all)))
}

// records counts the batches of a disk's log.
func records(d *disk.Disk) int {
	log, _ := wal.Open(d)
	return len(log.Records())
}

// laid is a disk of n blocks with a database of these keys and values.
func laid(t *testing.T, n int, l ...api.Put) *disk.Disk {
	t.Helper()
	d := newDisk(t, n)
	db, _ := kv.Open(d)
	for piece := range slices.Chunk(l, 3) { // three values of 1024 bytes go into a batch
		if e := db.Do(piece); e != api.OK {
			t.Fatalf("Do of%.200s = %d", shown(piece), int(e))
		}
	}
	return d
}

// deed is a call that writes, or Next.
type deed struct {
	name       string
	txn, owner int
	ops        []api.Op
}

func log(txn, owner int, l ...api.Op) deed { return deed{"Log", txn, owner, l} }

func shut(txn int) deed { return deed{name: "Close", txn: txn} }

func next(owner int) deed { return deed{name: "Next", owner: owner} }

func (y deed) String() string {
	switch y.name {
	case "Log":
		return "Log " + entry{y.txn, y.owner, y.ops, false}.String()
	case "Close":
		return fmt.Sprint("Close ", y.txn)
	}
	return fmt.Sprint(y.name, " ", y.owner)
}

// plan is the batch that a deed has to do (none: it writes nothing) and what the book has behind it, or the error by which it is refused ahead of that.
func (y deed) plan(x has) ([]api.Put, has, api.Errno) {
	at := x.find(y.txn)
	switch {
	case y.name == "Close" && at < 0:
		return nil, x, api.ErrNone
	case y.name == "Close" && x.entries[at].closed:
		return nil, x, api.OK
	case y.name == "Close":
		let := has{x.epoch, slices.Clone(x.entries)}
		let.entries[at].closed = true
		return []api.Put{putOfClosed(uint64(y.txn))}, let, api.OK
	case y.txn < 1 || y.txn > 1<<40:
		return nil, x, api.ErrArg
	case at >= 0:
		return nil, x, api.ErrThere
	}
	if _, _, e := plan.All(x.stacks(), y.owner, y.ops); e != api.OK {
		return nil, x, e
	}
	made := entry{y.txn, y.owner, y.ops, false}
	return made.putsAt(len(x.entries)), has{x.epoch, append(slices.Clone(x.entries), made)}, api.OK
}

// both is a book on a disk, and what it must be: what it has, and another disk, to whose database all is done by hand that the chapter asks for.
type both struct {
	d, other *disk.Disk
	b        *Book
	db       *kv.DB
	has      has
	numbers  map[int]bool // all that Next told, also ahead of losses of power
	counts   [9]int       // how many for each owner since it was opened
	did      string
}

// opened opens a book on a disk; nothing else has a hand on it.
func opened(t *testing.T, d *disk.Disk) *both {
	t.Helper()
	x := &both{d: d, other: d.Copy(), numbers: map[int]bool{}}
	if e := x.open(t); e != api.OK {
		t.Fatalf("Open of %.2000s = %d", shown(keysOn(d, nil)), int(e))
	}
	return x
}

// run is a book on a disk of n blocks, behind these deeds.
func run(t *testing.T, n int, deeds ...deed) *both {
	t.Helper()
	x := opened(t, newDisk(t, n))
	x.must(t, deeds...)
	return x
}

// must does deeds that are not refused.
func (x *both) must(t *testing.T, deeds ...deed) {
	t.Helper()
	x.answers(t, api.OK, deeds...)
}

// answers does deeds each of which is answered by that error.
func (x *both) answers(t *testing.T, want api.Errno, deeds ...deed) {
	t.Helper()
	for _, y := range deeds {
		if e := x.do(t, y); e != want {
			t.Fatalf("the last of%.2000s answers %d, want %d", x.did, int(e), int(want))
		}
	}
}

// refuses does deeds each of which is answered by that error, and writes nothing.
func (x *both) refuses(t *testing.T, want api.Errno, deeds ...deed) {
	t.Helper()
	done, ahead := x.d.Done(), x.has
	x.answers(t, want, deeds...)
	if x.d.Done() != done || !x.has.is(ahead) {
		t.Fatalf("%v: Done %d, want %d; %v, want %v", deeds, x.d.Done(), done, x.has, ahead)
	}
}

// writesNothing does deeds that are answered OK, and write nothing.
func (x *both) writesNothing(t *testing.T, deeds ...deed) {
	t.Helper()
	x.refuses(t, api.OK, deeds...)
}

// writes does a deed that is answered OK, and fails where it does not do just so many Writes and Flushes, in one batch.
func (x *both) writes(t *testing.T, y deed, want int) {
	t.Helper()
	done, batches := x.d.Done(), records(x.d)
	x.must(t, y)
	if got := x.d.Done() - done; got != want || records(x.d) != batches+1 {
		t.Fatalf("%v: %d Writes and Flushes, want %d; %d batches", y, got, want, records(x.d)-batches)
	}
}

// open opens the book anew, and fails where it is not what the disk's database has, with another epoch.
func (x *both) open(t *testing.T) api.Errno {
	t.Helper()
	x.did += " Open;"
	db, want := kv.Open(x.other)
	var there has
	if want == api.OK {
		there, want = understood(db.Scan("", ""))
	}
	if want == api.OK && there.epoch == 1<<20-1 {
		want = api.ErrFull
	}
	if want == api.OK {
		there.epoch++
		want = db.Do([]api.Put{putOfEpoch(uint64(there.epoch))})
	}
	b, e := Open(x.d)
	if e != want || (b == nil) != (want != api.OK) {
		t.Fatalf("behind%.2000s: %v, %d, want %d", x.did, b, int(e), int(want))
	}
	if e == api.OK {
		x.b, x.db, x.has, x.counts = b, db, there, [9]int{}
		isBook(t, b, there, "behind"+x.did)
	}
	x.isDisk(t)
	return e
}

// do does a deed, and fails where the answer, the book or the disk is not as the chapter says.
func (x *both) do(t *testing.T, y deed) api.Errno {
	t.Helper()
	x.did += " " + y.String() + ";"
	if y.name == "Next" {
		return x.next(t, y.owner)
	}
	batch, next, want := y.plan(x.has)
	if batch != nil {
		want = x.db.Do(batch)
	}
	if want == api.OK {
		x.has = next
	}
	if e := call(x.b, y); e != want {
		t.Fatalf("the last of%.2000s answers %d, want %d", x.did, int(e), int(want))
	}
	isBook(t, x.b, x.has, "behind"+x.did)
	x.isDisk(t)
	return want
}

func call(b *Book, y deed) api.Errno {
	if y.name == "Log" {
		return b.Log(y.txn, y.owner, y.ops)
	}
	return b.Close(y.txn)
}

func (x *both) next(t *testing.T, owner int) api.Errno {
	t.Helper()
	want, wanted := 0, api.ErrArg
	if slices.Contains([]int{1, 2, 3, 4, 5, 6, 7, 8}, owner) {
		wanted = api.ErrFull
		if x.counts[owner] < 131071 {
			x.counts[owner]++
			want, wanted = x.has.epoch*1048576+(owner-1)*131072+x.counts[owner], api.OK
		}
	}
	n, e := x.b.Next(owner)
	if n != want || e != wanted {
		t.Fatalf("the last of%.2000s answers %d, %d, want %d, %d", x.did, n, int(e), want, int(wanted))
	}
	if e == api.OK && (x.numbers[n] || n < 1 || n > 1<<40 || Owner(n) != owner) {
		t.Fatalf("the last of%.2000s answers %d, told already or of another owner", x.did, n)
	}
	x.numbers[n] = true
	return e
}

func (x *both) isDisk(t *testing.T) {
	t.Helper()
	if got, want := looks(x.d), looks(x.other); got != want {
		t.Fatalf("behind%.2000s: the disk is\n%.2000s, want\n%.2000s", x.did, got, want)
	}
}

func (x *both) fuse(n int) {
	x.did += fmt.Sprintf(" Fuse %d;", n)
	x.d.Fuse(n)
	x.other.Fuse(n)
}

func (x *both) crash(keep ...int) {
	x.did += fmt.Sprintf(" Crash %v;", keep)
	x.d.Crash(keep)
	x.other.Crash(keep)
}

// isBook fails where a book tells anything else than what it must have.
func isBook(t *testing.T, b *Book, want has, why string) {
	t.Helper()
	var order, left []int
	for _, y := range want.entries {
		order = append(order, y.txn)
		if !y.closed {
			left = append(left, y.txn)
		}
		if roots := b.Roots(y.txn); !b.Has(y.txn) || !slices.Equal(roots, rootsOf(y)) {
			t.Fatalf("%.2000s: of %v: %v, %v", why, y, b.Has(y.txn), roots)
		}
	}
	if b.Epoch() != want.epoch || !slices.Equal(b.Order(), order) || !slices.Equal(b.Left(), left) {
		t.Fatalf("%.2000s: epoch %d, order %v, left %v, want %v", why, b.Epoch(), b.Order(), b.Left(), want)
	}
	if got := b.Stacks(); !sameStacks(got, want.stacks()) {
		t.Fatalf("%.2000s: stacks %v, want %v", why, got, want.stacks())
	}
	for _, owner := range append(wrongOwners(), 1, 2, 3, 4, 5, 6, 7, 8) {
		if got := b.Used(owner); got != want.used(owner) {
			t.Fatalf("%.2000s: Used(%d) = %d, want %d", why, owner, got, want.used(owner))
		}
	}
	for _, txn := range append(wrongTxns(), 4, 5, 1<<40) {
		if want.find(txn) < 0 && (b.Has(txn) || len(b.Roots(txn)) > 0) {
			t.Fatalf("%.2000s: of %d: %v, %v", why, txn, b.Has(txn), b.Roots(txn))
		}
	}
}

func rootsOf(y entry) []int {
	var out []int
	for _, root := range []int{1, 2, 3, 4, 5, 6} {
		if slices.ContainsFunc(y.ops, func(op api.Op) bool { return op.Root == root }) {
			out = append(out, root)
		}
	}
	return out
}

func (x has) used(owner int) int {
	used := 0
	for _, stack := range x.stacks() {
		for _, p := range stack {
			for _, r := range p.Man.Layers {
				if p.Owner == owner {
					used += r.Size
				}
			}
		}
	}
	return used
}

// rightTxns are numbers of transactions, wrongTxns numbers that are none, wrongOwners owners that are none, at the edges.

func rightTxns() []int { return []int{1, 2, 7, 255, 256, 1 << 32, 1<<40 - 1, 1 << 40} }

func wrongTxns() []int {
	return []int{0, -1, -7, 1<<40 + 1, 1 << 41, 1<<40 + 7, math.MaxInt, math.MinInt, math.MinInt + 7, -(1 << 40)}
}

func wrongOwners() []int {
	return []int{0, 9, 10, -1, -8, 64, 255, 256, 257, 1 << 32, 1<<32 + 1, -1 << 32, math.MaxInt, math.MinInt}
}

// P20.1: Open

// isRefused fails where a disk is not refused by that error, or where anything is written.
func isRefused(t *testing.T, d *disk.Disk, want api.Errno) {
	t.Helper()
	ahead := fmt.Sprint(d.Up(), d.Done(), d.Waiting(), d.Image())
	for range 2 {
		if b, e := Open(d); b != nil || e != want {
			t.Fatalf("Open of%.2000s = %v, %d, want %d", shown(keysOn(d, nil)), b, int(e), int(want))
		}
	}
	if now := fmt.Sprint(d.Up(), d.Done(), d.Waiting(), d.Image()); now != ahead {
		t.Fatalf("Open changed the disk: %.1000s, want %.1000s", now, ahead)
	}
}

func TestTheExample(t *testing.T) {
	b, e := Open(newDisk(t, 200))
	if e != api.OK || b.Epoch() != 1 {
		t.Fatalf("%d, epoch %d", int(e), b.Epoch())
	}
	n, e := b.Next(2)
	if n != 1048576+131072+1 || e != api.OK || Owner(n) != 2 {
		t.Fatalf("%d, %d, owner %d", n, int(e), Owner(n))
	}
	if e := b.Log(n, 2, ops(install(1, "a", "1", 5))); e != api.OK || !sameStacks(b.Stacks(), [][]api.Pack{{pack(2, "a", "1", 5)}, nil, nil, nil, nil, nil}) {
		t.Errorf("%d, %v", int(e), b.Stacks())
	}
}

func TestOpenOfNoDisk(t *testing.T) {
	refused, _ := disk.New(0)
	for _, d := range []*disk.Disk{nil, {}, new(disk.Disk), refused} {
		for range 2 {
			if b, e := Open(d); b != nil || e != api.ErrNil {
				t.Fatalf("Open = %v, %d", b, int(e))
			}
		}
	}
}

func TestOpenOfADiskThatIsDown(t *testing.T) {
	for _, d := range []*disk.Disk{newDisk(t, 1), newDisk(t, 6), newDisk(t, 20), laid(t, 20, putOfEpoch(7)), laid(t, 20, putOfEpoch(1<<20-1)), laid(t, 20, api.Put{Key: "z"})} {
		d.Fuse(0)
		d.Flush()
		isRefused(t, d, api.ErrDown)
	}
}

func TestOpenOfTooFewBlocks(t *testing.T) {
	for n := 1; n <= 5; n++ {
		isRefused(t, newDisk(t, n), api.ErrArg)
	}
	opened(t, newDisk(t, 6))
}

func TestOpenOfNoughts(t *testing.T) {
	for _, n := range []int{6, 7, 200, 4096} {
		x := opened(t, newDisk(t, n))
		if x.d.Done() != 2+4 || x.b.Epoch() != 1 || len(x.b.Order()) != 0 { // what kv.Open does; a block, a flush, a head, a flush
			t.Errorf("%v, Done %d", x.has, x.d.Done())
		}
		for epoch := 2; epoch < 30; epoch++ { // on the small disks the log is reset now and then
			x.open(t)
			if x.b.Epoch() != epoch {
				t.Errorf("epoch %d, want %d", x.b.Epoch(), epoch)
			}
		}
	}
}

// The errors of the log and of the database are told ahead of all others.
func TestOpenOfNoDatabase(t *testing.T) {
	torn := laid(t, 20, api.Put{Key: "z"}).Image()
	torn[2][9]++
	d, _ := disk.Of(torn)
	isRefused(t, d, api.ErrSum)
	d, _ = disk.Of(slices.Repeat([][]byte{[]byte(long('x', 64))}, 8))
	isRefused(t, d, api.ErrSum)
	for _, l := range [][]api.Put{nil, {putOfEpoch(7)}, {putOfEpoch(1<<20 - 1)}, {{Key: "z"}}} {
		d = laid(t, 20, l...)
		log, _ := wal.Open(d)
		log.Add("no batch")
		log.Sync()
		isRefused(t, d, api.ErrForm)
	}
}

// An epoch that is 1 and above is told one more; the last one is not gone beyond.
func TestOpenOfEachEpoch(t *testing.T) {
	some := []entry{{7, 2, ops(install(1, "a", "1", 5)), true}, {1 << 40, 2, ops(install(2, "b", "1", 5)), false}}
	for _, l := range [][]entry{nil, some} {
		for _, n := range []int{0, 1, 2, 255, 256, 65535, 1 << 19, 1<<20 - 3, 1<<20 - 2} {
			d := laid(t, 40, has{n, l}.puts()...)
			done := d.Done()
			x := opened(t, d)
			if x.b.Epoch() != n+1 || d.Done() == done {
				t.Errorf("epoch %d, want %d; Done %d", x.b.Epoch(), n+1, d.Done())
			}
			if n < 1<<20-2 {
				x.open(t)
				continue
			}
			isRefused(t, d, api.ErrFull)
			isRefused(t, laid(t, 40, has{n + 1, l}.puts()...), api.ErrFull)
		}
		for _, n := range []uint64{0, 1 << 20, 1<<20 + 1, 1 << 21, 1 << 32, 1<<32 + 7, 1 << 40, 1 << 63, 1<<63 + 7, math.MaxUint64, math.MaxUint64 - 1} {
			isRefused(t, laid(t, 40, append(has{0, l}.puts(), putOfEpoch(n))...), api.ErrForm)
		}
		for _, value := range []string{"", "\x01", eight(7)[1:], eight(7) + "\x00", "\x00" + eight(7), eight(7) + eight(7), eight(1<<20 - 1)[1:], eight(1<<20-1) + "\x00"} {
			isRefused(t, laid(t, 40, append(has{0, l}.puts(), api.Put{Key: "e", Value: value})...), api.ErrForm)
		}
		isRefused(t, laid(t, 40, append(has{1<<20 - 1, l}.puts(), api.Put{Key: "z"})...), api.ErrForm) // told ahead of ErrFull
		isRefused(t, laid(t, 40, append(has{1<<20 - 1, l}.puts(), putOfClosed(9))...), api.ErrForm)
	}
}

// rights are books that may be, at the edges that the chapter names.
func rights() []has {
	a, b := install(1, "a", "1", 5), install(1, "b", "1", 6)
	eightOps := ops(a, b, upgrade(1, "a", "2", 7), remove(1, "b"), install(6, "c", "1", 8), b, remove(1, "a"), install(2, "a", "1", 9))
	out := []has{
		{}, {3, nil},
		{0, []entry{{7, 2, ops(a), false}}}, {3, []entry{{7, 2, ops(a), true}}},
		{3, []entry{{7, 2, ops(b, a), false}, {3, 1, ops(install(2, "a", "1", 5), install(1, "c", "2", 1)), true}}},
		{3, []entry{{7, 2, ops(b, a), true}, {3, 2, ops(remove(1, "a")), false}, {5, 2, ops(install(1, "a", "0", 5), upgrade(1, "b", "1.1", 1, 2)), true}}},
		{3, []entry{{7, 2, eightOps, false}}}, {3, []entry{{9, 1, ops(install(3, "c", "1", 1)), true}, {7, 2, eightOps, false}}},
		{3, []entry{{7, 2, ops(a, remove(1, "a")), false}, {8, 3, ops(a, remove(1, "a")), false}}},
		{3, []entry{{7, 8, greatest('x'), false}, {8, 7, ops(install(5, long('z', 16), long('-', 16), 0, math.MaxInt32)), true}}},
	}
	for _, txn := range rightTxns() {
		out = append(out, has{3, []entry{{txn, 2, ops(a, b), true}, {9, 2, ops(remove(1, "b")), false}}}, has{3, []entry{{9, 2, ops(a, b), false}, {txn, 2, ops(remove(1, "b")), true}}})
	}
	for owner := 1; owner <= 8; owner++ { // whoever's the number is
		for root := 1; root <= 6; root++ {
			out = append(out, has{1, []entry{{7, owner, ops(install(root, "a", "1", 5)), owner > 4}}})
		}
	}
	return append(out, has{3, manyEntries(300)})
}

// manyEntries are so many that their places have two bytes.
func manyEntries(n int) []entry {
	var l []entry
	for i := range n {
		y := entry{1 + i*7919%1000, 1 + i/2%8, ops(remove(1+i/2%6, "a")), i%3 == 0}
		if i%2 == 0 {
			y.ops = ops(install(1+i/2%6, "a", fmt.Sprint(i), 5))
		}
		l = append(l, y)
	}
	return l
}

func TestOpenOfWhatMayBe(t *testing.T) {
	for _, want := range rights() {
		x := opened(t, laid(t, 1200, want.puts()...))
		want.epoch++
		isBook(t, x.b, want, "Open")
		x.must(t, log(1<<40-3, 3, install(5, "more", "1", 1)), shut(1<<40-3), log(1<<40-2, 3, remove(5, "more"))) // it can be gone on with
		x.open(t)
	}
}

func TestOpenByHand(t *testing.T) {
	x, y := long('x', 32), long('y', 32)
	d := laid(t, 40,
		api.Put{Key: "e", Value: "\x00\x00\x00\x00\x00\x00\x01\x02"},
		api.Put{Key: "k\x00\x00\x00\x00\x00\x00\x00\x00\x00", Value: "\x00\x00\x01\x00\x00\x00\x00\x00\x02\x02\x01\x06VM\x01\x03img\x011\x02" + x + "\x05" + y + "\x80\x02"},
		api.Put{Key: "k\x00\x00\x00\x00\x00\x00\x00\x00\x01", Value: "\x00\x00\x01\x00\x00\x00\x00\x00\x02\x02\x01\x01VM\x01\x01b\x0210\x01" + x + "\x00"},
		api.Put{Key: "k\x00\x00\x00\x00\x00\x00\x00\x01\x00", Value: "\x00\x00\x00\x00\x00\x00\x01\x02\x02\x02\x03\x01b"},
		api.Put{Key: "k\x00\x00\x00\x00\x00\x00\x00\x01\x01", Value: "\x00\x00\x00\x00\x00\x00\x01\x02\x02\x02\x02\x06VM\x01\x03img\x012\x01" + y + "\x07"},
		api.Put{Key: "x\x00\x00\x01\x00\x00\x00\x00\x00"})
	b, e := Open(d)
	if e != api.OK {
		t.Fatal(int(e))
	}
	sumX, sumY := api.Digest([]byte(x)), api.Digest([]byte(y))
	isBook(t, b, has{259, []entry{
		{1 << 40, 2, ops(
			api.Op{Kind: 1, Root: 6, Name: "img", Version: "1", Layers: []api.Ref{{Sum: sumX, Size: 5}, {Sum: sumY, Size: 256}}},
			api.Op{Kind: 1, Root: 1, Name: "b", Version: "10", Layers: []api.Ref{{Sum: sumX}}}), true},
		{258, 2, ops(
			remove(1, "b"),
			api.Op{Kind: 2, Root: 6, Name: "img", Version: "2", Layers: []api.Ref{{Sum: sumY, Size: 7}}}), false},
	}}, "Open")
	if got := b.Stacks(); len(got[0]) != 0 || len(got[5]) != 1 || got[5][0].Owner != 2 || got[5][0].Man.Version != "2" || b.Used(2) != 7 {
		t.Errorf("%v, %d", got, b.Used(2))
	}
	if got := b.Left(); !slices.Equal(got, []int{258}) {
		t.Errorf("%v", got)
	}
}

// goodForWrongs is a book that may be; wrongPuts are what its database has beside that, and must not: keys with a value take the place of those that were there, those that are Gone go.

func goodForWrongs() has {
	return has{3, []entry{
		{7, 2, ops(install(1, "a", "1", 5), install(2, "b", "1", 6, 7)), true},
		{9, 1, ops(install(1, "c", "1", 5)), false},
		{8, 2, ops(remove(1, "a"), upgrade(2, "b", "2", 1), install(1, "a", "3", 2)), false},
	}}
}

func wrongPuts() map[string][]api.Put {
	one := func(key, value string) []api.Put { return []api.Put{{Key: key, Value: value}} }
	gone := func(keys ...string) []api.Put {
		var l []api.Put
		for _, key := range keys {
			l = append(l, api.Put{Key: key, Gone: true})
		}
		return l
	}
	fourth := func(x entry) []api.Put { return x.putsAt(3) }
	line := func(txn uint64, owner, count int, op api.Op) []api.Put {
		return one(place(3, 0), lineOf(txn, owner, count, op))
	}
	d := install(3, "d", "1", 5)
	first, second := goodForWrongs().entries[0].ops[0], goodForWrongs().entries[0].ops[1]
	good := lineOf(5, 2, 1, d)
	return map[string][]api.Put{
		"a key of no mark":                        one("z", ""),
		"a byte 0":                                one("\x00", ""),
		"another mark, and a place":               one("l"+place(3, 0)[1:], good),
		"a mark in capitals":                      one("K"+place(3, 0)[1:], good),
		"an epoch in capitals":                    one("E", eight(3)),
		"two marks of the epoch":                  one("ee", eight(3)),
		"the mark of the epoch, and a byte":       one("e\x00", eight(3)),
		"the mark of an operation alone":          one("k", good),
		"the mark of what is closed alone":        one("x", ""),
		"a place without its byte":                one(place(3, 0)[:9], good),
		"a place with a byte more":                one(place(3, 0)+"\x00", good),
		"a place of 7 bytes":                      one("k"+eight(3)[1:]+"\x00", good),
		"a place with a byte more ahead":          one("k\x00"+eight(3)+"\x00", good),
		"a place with a byte more behind another": one(place(2, 2)+"\x00", good),
		"a place of a byte":                       one("k\x03", good),
		"a gap":                                   one(place(4, 0), good),
		"a place of 256":                          one(place(256, 0), good),
		"a place of 3 * 256":                      one(place(3*256, 0), good),
		"a place of 2^63":                         one(place(1<<63, 0), good),
		"a place of 2^63 + 3":                     one(place(1<<63+3, 0), good),
		"a place of 2^64 - 1":                     one(place(math.MaxUint64, 0), good),
		"no first entry":                          gone(place(0, 0), place(0, 1), putOfClosed(7).Key),
		"no second entry":                         gone(place(1, 0)),
		"no first operation":                      gone(place(0, 0)),
		"no second operation":                     gone(place(0, 1)),
		"no first of three operations":            gone(place(2, 0)),
		"no second of three operations":           gone(place(2, 1)),
		"no third of three operations":            gone(place(2, 2)),
		"one operation more":                      one(place(1, 1), lineOf(9, 1, 1, d)),
		"one operation more, of a count of 2":     one(place(1, 1), lineOf(9, 1, 2, d)),
		"one more behind a gap":                   one(place(1, 2), lineOf(9, 1, 1, d)),
		"an operation at 255":                     one(place(1, 255), lineOf(9, 1, 1, d)),
		"an operation at 256 - 1, of 256":         one(place(3, 255), lineOf(5, 2, 0, d)),
		"a count of 0":                            line(5, 2, 0, d),
		"a count of 2":                            line(5, 2, 2, d),
		"a count of 255":                          line(5, 2, 255, d),
		"the last one has a count of 0":           one(place(1, 0), lineOf(9, 1, 0, install(1, "c", "1", 5))),
		"the first one says another count":        one(place(0, 0), lineOf(7, 2, 1, first)),
		"the first one says a greater count":      one(place(0, 0), lineOf(7, 2, 3, first)),
		"the second one says another count":       one(place(0, 1), lineOf(7, 2, 1, second)),
		"the second one says a greater count":     one(place(0, 1), lineOf(7, 2, 3, second)),
		"the second one says a count of 0":        one(place(0, 1), lineOf(7, 2, 0, second)),
		"the first one says another number":       one(place(0, 0), lineOf(6, 2, 2, first)),
		"the second one says another number":      one(place(0, 1), lineOf(6, 2, 2, second)),
		"the second one says the number 0":        one(place(0, 1), lineOf(0, 2, 2, second)),
		"the second one says that of another":     one(place(0, 1), lineOf(9, 2, 2, second)),
		"the second one says 2^63 more":           one(place(0, 1), lineOf(1<<63+7, 2, 2, second)),
		"the third one says another number":       one(place(2, 2), lineOf(7, 2, 3, install(1, "a", "3", 2))),
		"the first one says another owner":        one(place(0, 0), lineOf(7, 1, 2, first)),
		"the second one says another owner":       one(place(0, 1), lineOf(7, 1, 2, second)),
		"the second one says the owner 0":         one(place(0, 1), lineOf(7, 0, 2, second)),
		"the third one says another owner":        one(place(2, 2), lineOf(8, 1, 3, install(1, "a", "3", 2))),
		"a number of 0":                           line(0, 2, 1, d),
		"a number of 2^40 + 1":                    line(1<<40+1, 2, 1, d),
		"a number of 2^63":                        line(1<<63, 2, 1, d),
		"a number of 2^63 + 5":                    line(1<<63+5, 2, 1, d),
		"a number of 2^64 - 1":                    line(math.MaxUint64, 2, 1, d),
		"a number twice":                          line(9, 2, 1, d),
		"the last number twice":                   line(8, 2, 1, d),
		"the first number twice":                  line(7, 2, 1, d),
		"an owner 0":                              line(5, 0, 1, d),
		"an owner 9":                              line(5, 9, 1, d),
		"an owner 255":                            line(5, 255, 1, d),
		"an owner 9, of three operations":         fourth(entry{5, 9, ops(d, install(4, "d", "1", 5), remove(3, "d")), false}),
		"a kind 0":                                one(place(3, 0), good[:10]+"\x00"+good[11:]),
		"a kind 4":                                one(place(3, 0), good[:10]+"\x04"+good[11:]),
		"a kind 255":                              one(place(3, 0), good[:10]+"\xff"+good[11:]),
		"a root 0":                                one(place(3, 0), good[:11]+"\x00"+good[12:]),
		"a root 7":                                one(place(3, 0), good[:11]+"\x07"+good[12:]),
		"a root 255":                              one(place(3, 0), good[:11]+"\xff"+good[12:]),
		"a removal of what is not there":          line(5, 2, 1, remove(3, "a")),
		"a removal of another one's":              line(5, 2, 1, remove(1, "c")),
		"a removal of no name":                    line(5, 2, 1, remove(1, "A")),
		"a removal of nothing":                    line(5, 2, 1, remove(1, "")),
		"a removal of a name and a byte":          line(5, 2, 1, remove(1, "a\x00")),
		"a removal of a manifest":                 one(place(3, 0), good[:10]+"\x03"+good[11:]),
		"an installation of a name":               one(place(3, 0), good[:12]+"d"),
		"an installation of what is there":        line(5, 2, 1, install(1, "a", "9", 5)),
		"an installation of another one's":        line(5, 2, 1, install(1, "c", "9", 5)),
		"an installation of too many layers":      fourth(entry{5, 2, ops(install(3, "d", "1", eights(1)...), install(3, "e", "1", eights(1)...), install(3, "f", "1", 1)), false}),
		"an upgrade of what is not there":         line(5, 2, 1, upgrade(3, "d", "9", 5)),
		"an upgrade of another one's":             line(5, 2, 1, upgrade(1, "c", "9", 5)),
		"an upgrade to the same version":          line(5, 2, 1, upgrade(2, "b", "2", 5)),
		"an upgrade to an older version":          line(5, 2, 1, upgrade(2, "b", "1", 5)),
		"the second operation is refused":         fourth(entry{5, 2, ops(d, d), false}),
		"nine operations":                         fourth(entry{5, 2, slices.Concat(slices.Repeat(ops(d, remove(3, "d")), 4), ops(d)), false}),
		"no version":                              one(place(3, 0), strings.Replace(good, "\x011", "\x00", 1)),
		"no layers":                               line(5, 2, 1, install(3, "d", "1")),
		"a digest twice":                          line(5, 2, 1, api.Op{Kind: 1, Root: 3, Name: "d", Version: "1", Layers: make([]api.Ref, 2)}),
		"another letter ahead":                    one(place(3, 0), strings.Replace(good, "VM", "VN", 1)),
		"a size in a longer form":                 one(place(3, 0), good[:len(good)-1]+"\x85\x00"),
		"a manifest that is cut off":              one(place(3, 0), good[:len(good)-1]),
		"a manifest with a byte more":             one(place(3, 0), good+"\x00"),
		"no manifest":                             one(place(3, 0), good[:12]),
		"no root":                                 one(place(3, 0), good[:11]),
		"no kind":                                 one(place(3, 0), good[:10]),
		"no count":                                one(place(3, 0), good[:9]),
		"no owner":                                one(place(3, 0), good[:8]),
		"a number of 7 bytes":                     one(place(3, 0), good[1:]),
		"a number of 9 bytes":                     one(place(3, 0), "\x00"+good),
		"no bytes":                                one(place(3, 0), ""),
		"a byte":                                  one(place(3, 0), "\x05"),
		"no bytes in an operation that was there": one(place(2, 1), ""),
		"the bytes of a removal alone":            one(place(2, 0), lineOf(8, 2, 3, remove(1, ""))),
		"a closed one that is no entry":           one("x"+eight(5), ""),
		"a closed one of 0":                       one("x"+eight(0), ""),
		"a closed one of 2^40 + 1":                one("x"+eight(1<<40+1), ""),
		"a closed one of 2^63 + 9":                one("x"+eight(1<<63+9), ""),
		"a closed one of 2^64 - 1":                one("x"+eight(math.MaxUint64), ""),
		"a closed one with a value":               one("x"+eight(7), "\x00"),
		"a closed one with its number":            one("x"+eight(9), eight(9)),
		"a closed one of 7 bytes":                 one("x"+eight(9)[1:], ""),
		"a closed one of 9 bytes":                 one("x"+eight(9)+"\x00", ""),
		"a closed one of 9 bytes, of one that is": one("x"+eight(7)+"\x00", ""),
		"a closed one with a byte more ahead":     one("x\x00"+eight(9), ""),
		"a closed one of one byte":                one("x\x09", ""),
		"a closed one in capitals":                one("X"+eight(9), ""),
		"a closed one of 9 * 256":                 one("x"+eight(9*256), ""),
	}
}

func TestOpenOfAnotherForm(t *testing.T) {
	good := goodForWrongs().puts()
	opened(t, laid(t, 200, good...))
	for name, wrong := range wrongPuts() {
		for _, l := range [][]api.Put{slices.Concat(good, wrong), slices.Concat(wrong, good, wrong), slices.Concat(good[1:], wrong)} { // the first key is the epoch's
			d := laid(t, 200, l...)
			if _, e := understood(keysOn(d, nil)); e != api.ErrForm {
				t.Fatalf("%s: %d", name, int(e))
			}
			if b, e := Open(d); b != nil || e != api.ErrForm {
				t.Errorf("%s: %v, %d", name, b, int(e))
			}
			isRefused(t, d, api.ErrForm)
		}
		d := laid(t, 200, slices.Concat(good, wrong, []api.Put{putOfEpoch(1<<20 - 1)})...)
		isRefused(t, d, api.ErrForm) // ahead of ErrFull
	}
	for _, p := range append(good, api.Put{Key: "z"}) { // each alone
		d := laid(t, 200, p)
		if _, e := understood([]api.Put{p}); e != api.OK {
			isRefused(t, d, api.ErrForm)
		} else {
			opened(t, d)
		}
	}
}

// Each key of a book goes, or it or its value is changed at some place, cut, or lengthened: what Open answers is held against a search for each fault.
func TestOpenOfChangedKeys(t *testing.T) {
	told := map[api.Errno]int{}
	for _, x := range []has{goodForWrongs(), {1<<20 - 2, []entry{{1 << 40, 1, ops(install(1, "a", "1", 5)), true}}}, {1<<20 - 1, []entry{{7, 1, ops(install(1, "a", "1", 5)), false}}}} {
		good := x.puts()
		for i, p := range good {
			rest := slices.Delete(slices.Clone(good), i, i+1)
			told[opensAs(t, rest)]++
			for at := range len(p.Key) {
				for c := range 256 {
					if at > 0 && c&(c-1) != 0 || at == 0 && c&3 != 0 && c > 40 { // of its mark many changes, of others one bit
						continue
					}
					key := []byte(p.Key)
					key[at] ^= byte(c)
					told[opensAs(t, append(slices.Clone(rest), api.Put{Key: string(key), Value: p.Value}))]++
					told[opensAs(t, append(slices.Clone(good), api.Put{Key: string(key), Value: p.Value}))]++
				}
				told[opensAs(t, append(slices.Clone(rest), api.Put{Key: p.Key[:at+1], Value: p.Value}))]++
			}
			for _, value := range changedValues(p.Value) {
				told[opensAs(t, append(slices.Clone(rest), api.Put{Key: p.Key, Value: value}))]++
				told[opensAs(t, append(slices.Clone(good), api.Put{Key: p.Key + "\x00", Value: value}))]++
			}
		}
	}
	if told[api.OK] < 200 || told[api.ErrForm] < 2000 || told[api.ErrFull] < 5 {
		t.Errorf("%v", told)
	}
}

func changedValues(s string) []string {
	out := []string{"", s + "\x00", s + s, "\x80" + s}
	for at := range len(s) {
		for _, c := range []byte{1, 2, 8, 128, 255} {
			b := []byte(s)
			b[at] ^= c
			out = append(out, string(b))
		}
		out = append(out, s[:at])
	}
	return out
}

// opensAs fails where Open makes anything else of keys and values than understood does. Later ones of a key take the place of those ahead.
func opensAs(t *testing.T, l []api.Put) api.Errno {
	t.Helper()
	d := laid(t, 60, l...)
	want, e := understood(keysOn(d, nil))
	if e == api.OK && want.epoch == 1<<20-1 {
		e = api.ErrFull
	}
	b, err := Open(d)
	if err != e || (b == nil) != (e != api.OK) {
		t.Fatalf("%.3000s: %v, %d, want %d", shown(keysOn(d, nil)), b, int(err), int(e))
	}
	if e == api.OK {
		want.epoch++
		isBook(t, b, want, "Open")
	}
	return e
}

func TestOpenByChance(t *testing.T) {
	chance := rand.New(rand.NewSource(20))
	told := map[api.Errno]int{}
	for range 4000 {
		l := anyHas(chance).puts()
		for range chance.Intn(3) {
			l = spoilt(chance, l)
		}
		told[opensAs(t, l)]++
	}
	if told[api.OK] < 1000 || told[api.ErrForm] < 1000 || told[api.ErrFull] < 50 {
		t.Errorf("%v", told)
	}
}

func anyHas(chance *rand.Rand) has {
	x := has{epoch: []int{0, 1, 2, 300, 1<<20 - 2, 1<<20 - 1}[chance.Intn(6)]}
	for range chance.Intn(8) {
		_, next, e := anyDeed(chance, x).plan(x)
		if e == api.OK {
			x = next
		}
	}
	return x
}

// spoilt changes one key, or its value, in one place.
func spoilt(chance *rand.Rand, l []api.Put) []api.Put {
	if len(l) == 0 {
		return []api.Put{{Key: []string{"e", "k", place(0, 0), "x", "x" + eight(7)}[chance.Intn(5)]}}
	}
	i := chance.Intn(len(l))
	p := &l[i]
	text := &p.Value
	if chance.Intn(2) == 0 {
		text = &p.Key
	}
	b := []byte(*text)
	switch at := chance.Intn(len(b) + 1); {
	case chance.Intn(5) == 0:
		return slices.Delete(l, i, i+1)
	case at == len(b) || chance.Intn(5) == 0:
		b = slices.Insert(b, at, byte(chance.Intn(256)))
	case chance.Intn(4) == 0 && len(b) > 1:
		b = slices.Delete(b, at, at+1)
	default:
		b[at] ^= 1 << chance.Intn(8)
	}
	*text = string(b)
	return l
}

// A disk without room for an epoch: what is there fills its log to the last byte, or leaves too little, and had none yet.
func TestOpenWithoutRoom(t *testing.T) {
	refused, taken := 0, 0
	for s := 2; s <= 22; s++ {
		name := max(1, s-16)
		y := entry{7, 1, ops(install(1, long('n', name), long('v', s-name), 1, 2)), false}
		d := newDisk(t, 6) // with a log of 128 bytes
		db, _ := kv.Open(d)
		if e := db.Do(y.putsAt(0)); e != api.OK {
			t.Fatalf("%d bytes: %d", s, int(e))
		}
		done := d.Done()
		b, e := Open(d)
		if e == api.ErrFull && b == nil {
			refused++
			if d.Done() != done {
				t.Fatalf("%d bytes: Done %d, want %d", s, d.Done(), done)
			}
			isRefused(t, d, api.ErrFull)
			continue
		}
		if e != api.OK {
			t.Fatalf("%d bytes: %d", s, int(e))
		}
		taken++
		isBook(t, b, has{1, []entry{y}}, "Open")
		x := opened(t, d)
		x.refuses(t, api.ErrFull, log(8, 1, install(2, "a", "1", 5)))
	}
	if refused < 3 || taken < 3 {
		t.Errorf("%d are refused, %d are not", refused, taken)
	}
}

// With an epoch there is room for the next one: what it takes the last one leaves.
func TestOpenOfADiskThatIsFull(t *testing.T) {
	for _, n := range []int{8, 12, 40} {
		x := opened(t, newDisk(t, n))
		txn := 1
		for ; x.do(t, log(txn, 1, install(1, "a", fmt.Sprint(txn), 1), remove(1, "a"))) == api.OK; txn++ {
			x.did = ""
		}
		for ; x.do(t, log(txn, 1, remove(1, "a"))) == api.OK; txn++ {
		}
		for range 40 {
			if e := x.open(t); e != api.OK {
				t.Fatalf("of %d blocks: %d", n, int(e))
			}
			x.did = ""
			x.refuses(t, api.ErrFull, log(1<<40, 1, install(1, "a", fmt.Sprint(txn), 1), remove(1, "a")))
		}
	}
}

// P20.2: Epoch, Next

func TestNextOfEachOwner(t *testing.T) {
	x := opened(t, newDisk(t, 40))
	for range 3 {
		for k := 1; k <= 5; k++ {
			for owner := 1; owner <= 8; owner++ {
				x.refuses(t, api.ErrArg, next(0), next(9))
				x.writesNothing(t, next(owner))
			}
		}
		x.writesNothing(t, next(1), next(1), next(8), next(1), next(3)) // each owner has numbers of its own
		x.open(t)
	}
}

func TestNextByHand(t *testing.T) {
	b, _ := Open(laid(t, 40, putOfEpoch(4)))
	for _, x := range []struct{ owner, want int }{{1, 5242881}, {2, 5373953}, {1, 5242882}, {8, 6160385}, {1, 5242883}, {8, 6160386}, {2, 5373954}, {5, 5767169}} {
		if n, e := b.Next(x.owner); n != x.want || e != api.OK {
			t.Errorf("Next(%d) = %d, %d, want %d", x.owner, n, int(e), x.want)
		}
	}
}

func TestNextOfOwnersThatMayNotBe(t *testing.T) {
	x := run(t, 40, log(7, 1, install(1, "a", "1", 5)))
	for range 2 {
		for _, owner := range wrongOwners() {
			x.refuses(t, api.ErrArg, next(owner))
		}
		x.writesNothing(t, next(1), next(8))
	}
}

// The last number of an owner: then there are none for it, and those of others are as ever.
func TestNextOfAllNumbers(t *testing.T) {
	for _, epoch := range []int{1, 5, 1<<20 - 1} {
		d := laid(t, 40, has{epoch: epoch - 1}.puts()...)
		b, _ := Open(d)
		done := d.Done()
		for _, owner := range []int{3, 8, 1} {
			for k := 1; k <= 131071; k++ {
				if n, e := b.Next(owner); n != epoch*1048576+(owner-1)*131072+k || e != api.OK || Owner(n) != owner || n > 1<<40 {
					t.Fatalf("Next(%d) for the %dth time = %d, %d", owner, k, n, int(e))
				}
			}
			for range 3 {
				if n, e := b.Next(owner); n != 0 || e != api.ErrFull {
					t.Fatalf("Next(%d) = %d, %d", owner, n, int(e))
				}
			}
		}
		for _, owner := range []int{2, 7} {
			if n, e := b.Next(owner); n != epoch*1048576+(owner-1)*131072+1 || e != api.OK {
				t.Fatalf("Next(%d) = %d, %d", owner, n, int(e))
			}
		}
		if d.Done() != done || b.Epoch() != epoch {
			t.Errorf("Done %d, want %d; epoch %d", d.Done(), done, b.Epoch())
		}
		if e := b.Log(epoch*1048576+7*131072+131071, 8, ops(install(1, "a", "1", 5))); e != api.OK {
			t.Errorf("Log = %d", int(e))
		}
		if epoch == 5 {
			b, _ = Open(d)
			if n, e := b.Next(3); n != 6*1048576+2*131072+1 || e != api.OK {
				t.Errorf("%d, %d", n, int(e))
			}
		}
	}
}

// Next goes by how often it was asked alone: not by what is written down, and it takes nothing from Log.
func TestNextBesideLog(t *testing.T) {
	x := run(t, 100, log(1048577, 1, install(1, "a", "1", 5)), log(1048578, 2, install(1, "b", "1", 5)), next(1))
	x.refuses(t, api.ErrThere, log(1048577, 1, install(1, "c", "1", 5)))
	x.must(t, next(1), next(1), next(2), log(1048579, 1, install(1, "c", "1", 5)), shut(1048579), next(1), next(3))
}

// P20.3: Log, Close

// How many Writes and Flushes each call does: the blocks of its batch's frame, a flush, a head, a flush.
func TestByHand(t *testing.T) {
	x := opened(t, newDisk(t, 200)) // the epoch: 21 bytes
	a, b := install(1, "a", "1", 5), install(3, "b", "10", 300)
	x.writes(t, log(258, 2, a, b), 3+3) // 153 bytes from 21 on
	at := "k\x00\x00\x00\x00\x00\x00\x00"
	want := []api.Put{
		{Key: "e", Value: "\x00\x00\x00\x00\x00\x00\x00\x01"},
		{Key: at + "\x00\x00", Value: "\x00\x00\x00\x00\x00\x00\x01\x02\x02\x02\x01\x01VM\x01\x01a\x011\x01" + string(a.Layers[0].Sum[:]) + "\x05"},
		{Key: at + "\x00\x01", Value: "\x00\x00\x00\x00\x00\x00\x01\x02\x02\x02\x01\x03VM\x01\x01b\x0210\x01" + string(b.Layers[0].Sum[:]) + "\xac\x02"},
	}
	isKeys := func() {
		t.Helper()
		if got := keysOn(x.d, nil); !slices.Equal(got, want) {
			t.Fatalf("%s, want %s", shown(got), shown(want))
		}
	}
	isKeys()
	x.writes(t, log(7, 2, remove(3, "b"), upgrade(1, "a", "2", 6)), 3+3) // 114 bytes from 174 on
	want = append(want,
		api.Put{Key: at + "\x01\x00", Value: "\x00\x00\x00\x00\x00\x00\x00\x07\x02\x02\x03\x03b"},
		api.Put{Key: at + "\x01\x01", Value: "\x00\x00\x00\x00\x00\x00\x00\x07\x02\x02\x02\x01VM\x01\x01a\x012\x01" + string(refs("a 2", 6)[0].Sum[:]) + "\x06"})
	isKeys()
	x.writes(t, shut(258), 1+3) // 21 bytes from 288 on
	want = append(want, api.Put{Key: "x\x00\x00\x00\x00\x00\x00\x01\x02"})
	isKeys()
	x.writes(t, log(1<<40, 8, install(1, "c", "1", 5), remove(1, "c")), 3+3)
	x.open(t)
}

func TestLogOfEachTxn(t *testing.T) {
	x := opened(t, newDisk(t, 400))
	right := install(1, "zz", "1", 5)
	for _, txn := range wrongTxns() {
		x.refuses(t, api.ErrArg, log(txn, 1), log(txn, 1, right), log(txn, 0, right), log(txn, 1, api.Op{}), log(txn, 1, slices.Repeat(ops(right), 9)...))
		x.refuses(t, api.ErrNone, shut(txn))
	}
	for i, txn := range rightTxns() {
		x.refuses(t, api.ErrNone, shut(txn))
		x.must(t, log(txn, 1+i, install(1+i%6, fmt.Sprint("a", i), "1", 5)))
		x.open(t)
		x.refuses(t, api.ErrThere, log(txn, 1+i, right), log(txn, 1, install(2, "b", "1", 5)))
		for _, txn := range wrongTxns() {
			x.refuses(t, api.ErrArg, log(txn, 1, right))
			x.refuses(t, api.ErrNone, shut(txn))
		}
	}
	if got := x.b.Order(); !slices.Equal(got, rightTxns()) {
		t.Errorf("%v", got)
	}
}

// The owner is as it is told, whoever's the number is.
func TestLogOfEachOwner(t *testing.T) {
	x := opened(t, newDisk(t, 200))
	for owner := 1; owner <= 8; owner++ {
		x.must(t, log(owner, owner, install(2, fmt.Sprint("a", owner), "1", 100+owner)))
		if x.b.Used(owner) != 100+owner || Owner(owner) != 1 {
			t.Errorf("Used(%d) = %d", owner, x.b.Used(owner))
		}
	}
	for _, owner := range wrongOwners() {
		x.refuses(t, api.ErrArg, log(9, owner, install(1, "a", "1", 5)), log(9, owner, remove(2, "a1")), log(9, owner, upgrade(2, "a1", "2", 5)))
	}
	x.open(t)
}

// thingsWrong are operations of owner 1 that a book refuses in which owner 1 laid a (version 2) and b on root 1, owner 2 laid c there, and 16 layers are on root 2, each with its error.
func thingsWrong() map[string]struct {
	l []api.Op
	e api.Errno
} {
	right := install(3, "n", "1", 5)
	none := api.Op{Kind: 1, Root: 1, Name: "n", Version: "1"} // without layers
	type wrong = struct {
		l []api.Op
		e api.Errno
	}
	out := map[string]wrong{
		"no operations":                  {nil, api.ErrNone},
		"no operations in a list":        {[]api.Op{}, api.ErrNone},
		"9 operations":                   {slices.Concat(slices.Repeat(ops(right, remove(3, "n")), 4), ops(right)), api.ErrBig},
		"9 operations of no kind":        {make([]api.Op, 9), api.ErrBig},
		"a kind 0":                       {ops(api.Op{}), api.ErrKind},
		"a kind 4":                       {ops(api.Op{Kind: 4, Root: 3, Name: "n", Version: "1", Layers: right.Layers}), api.ErrKind},
		"a kind 257":                     {ops(api.Op{Kind: 257, Root: 3, Name: "n", Version: "1", Layers: right.Layers}), api.ErrKind},
		"a root 0":                       {ops(install(0, "n", "1", 5)), api.ErrArg},
		"a root 7":                       {ops(install(7, "n", "1", 5)), api.ErrArg},
		"a root 257":                     {ops(install(257, "n", "1", 5)), api.ErrArg},
		"a root -1":                      {ops(remove(-1, "a")), api.ErrArg},
		"a removal with a version":       {ops(api.Op{Kind: 3, Root: 1, Name: "a", Version: "2"}), api.ErrForm},
		"a removal with layers":          {ops(api.Op{Kind: 3, Root: 1, Name: "a", Layers: right.Layers}), api.ErrForm},
		"a removal of no name":           {ops(remove(1, "A")), api.ErrArg},
		"a name of no bytes":             {ops(install(1, "", "1", 5)), api.ErrArg},
		"a name of 17 bytes":             {ops(install(1, long('n', 17), "1", 5)), api.ErrArg},
		"a version of no version":        {ops(upgrade(1, "a", "3_", 5)), api.ErrArg},
		"no layers":                      {ops(none), api.ErrNone},
		"9 layers":                       {ops(install(3, "n", "1", append(eights(1), 1)...)), api.ErrBig},
		"a size below 0":                 {ops(install(3, "n", "1", -1)), api.ErrArg},
		"a size of 2^31":                 {ops(install(3, "n", "1", 1<<31)), api.ErrArg},
		"a digest twice":                 {ops(api.Op{Kind: 1, Root: 3, Name: "n", Version: "1", Layers: make([]api.Ref, 2)}), api.ErrThere},
		"a name that is there":           {ops(install(1, "a", "3", 5)), api.ErrThere},
		"another one's name":             {ops(install(1, "c", "3", 5)), api.ErrThere},
		"an upgrade of none":             {ops(upgrade(3, "a", "3", 5)), api.ErrNone},
		"an upgrade of another one's":    {ops(upgrade(1, "c", "3", 5)), api.ErrDenied},
		"an upgrade to the same":         {ops(upgrade(1, "a", "2", 5)), api.ErrOrder},
		"an upgrade to an older one":     {ops(upgrade(1, "a", "1", 5)), api.ErrOrder},
		"a removal of none":              {ops(remove(3, "a")), api.ErrNone},
		"a removal of another one's":     {ops(remove(1, "c")), api.ErrDenied},
		"a layer too many":               {ops(install(2, "n", "1", 5)), api.ErrBig},
		"a layer too many by an upgrade": {ops(upgrade(2, "h", "2", append(eights(1)[1:], 1, 1)...)), api.ErrBig},
		"twice the same":                 {ops(right, right), api.ErrThere},
		"a removal of it twice":          {ops(remove(1, "a"), remove(1, "a")), api.ErrNone},
		"back to an older one":           {ops(upgrade(1, "a", "4", 5), upgrade(1, "a", "3", 5)), api.ErrOrder},
	}
	for name, x := range out { // also behind others that are right
		if len(x.l) > 0 && len(x.l) < 3 {
			out["behind others: "+strings.TrimPrefix(name, "behind others: ")] = wrong{append(ops(install(4, "p", "1", 5), remove(4, "p"), install(5, "q", "1", 5), install(6, "q", "1", 5)), x.l...), x.e}
		}
	}
	return out
}

func TestLogOfWhatIsRefused(t *testing.T) {
	x := run(t, 400, log(1, 1, install(1, "b", "1", 5), install(1, "a", "2", 5)), log(2, 2, install(1, "c", "1", 5)), log(3, 1, install(2, "h", "1", eights(1)...), install(2, "i", "1", eights(1)...)), shut(2))
	small := run(t, 6)
	for name, y := range thingsWrong() {
		x.did = " " + name + ":"
		x.refuses(t, y.e, log(4, 1, y.l...), log(1<<40, 1, y.l...))
		x.refuses(t, api.ErrThere, log(1, 1, y.l...), log(3, 2, y.l...)) // told ahead of it
		x.refuses(t, api.ErrArg, log(0, 1, y.l...), log(1<<40+1, 1, y.l...))
		if _, _, e := plan.All(small.has.stacks(), 1, y.l); e != api.OK {
			small.refuses(t, e, log(4, 1, y.l...)) // also where there is no room
		}
	}
	x.open(t)
	x.must(t, log(4, 1, install(3, "n", "1", 5)), shut(4))
	small.refuses(t, api.ErrFull, log(4, 1, install(1, "n", "1", 5), install(2, "n", "1", 5)))
}

// Which of several errors is told: the number's, the one that it is there, the operations', the disk's.
func TestOrderOfErrors(t *testing.T) {
	x := run(t, 8, log(7, 1, install(1, "a", "1", 5)))
	full := slices.Repeat(ops(install(2, "b", "1", 5), remove(2, "b")), 4)
	x.refuses(t, api.ErrFull, log(8, 1, full...))
	x.refuses(t, api.ErrArg, log(0, 1, full...), log(0, 0), log(1<<40+1, 9, api.Op{}), log(-7, 1))
	x.refuses(t, api.ErrThere, log(7, 1, full...), log(7, 0), log(7, 9, api.Op{}), log(7, 1))
	x.refuses(t, api.ErrNone, log(8, 0), log(8, 1), log(8, 1, upgrade(2, "a", "2", 5)), shut(8))
	x.refuses(t, api.ErrArg, log(8, 0, full...), log(8, 9, full...))
	x.refuses(t, api.ErrBig, log(8, 0, append(full, full...)...))
	x.refuses(t, api.ErrKind, log(8, 0, api.Op{}), log(8, 9, append(ops(api.Op{Kind: 4}), full[:7]...)...))
	x.fuse(0)
	x.refuses(t, api.ErrFull, log(8, 1, full...)) // the disk is not asked
	x.answers(t, api.ErrDown, shut(7))
	x.refuses(t, api.ErrArg, log(0, 1, full...))
	x.refuses(t, api.ErrThere, log(7, 1, full...))
	x.refuses(t, api.ErrNone, log(8, 1), shut(8), shut(0))
	x.answers(t, api.ErrDown, log(8, 1, full...), log(8, 1, install(2, "a", "1", 5)), shut(7))
}

func TestLogTwice(t *testing.T) {
	x := run(t, 100, log(7, 1, install(1, "a", "1", 5)))
	again := []deed{log(7, 1, install(1, "a", "1", 5)), log(7, 1, install(1, "b", "1", 5)), log(7, 2, install(1, "b", "1", 5)), log(7, 1, remove(1, "a"))}
	for range 2 {
		x.refuses(t, api.ErrThere, again...)
		x.must(t, shut(7))
		x.refuses(t, api.ErrThere, again...)
		x.open(t)
	}
}

// Eight operations, the greatest there are; and more than one of a root, whose order counts.
func TestLogOfManyOperations(t *testing.T) {
	x := opened(t, newDisk(t, 800))
	for i := range 4 {
		batches := records(x.d)
		x.must(t, log(10+i, 1+i, greatest(byte('a'+i))...))
		if records(x.d) != batches+1 {
			t.Errorf("%d batches", records(x.d)-batches)
		}
		x.open(t)
		x.must(t, shut(10+i))
		var l []api.Op
		for _, op := range greatest(byte('a' + i)) {
			l = append(l, remove(op.Root, op.Name))
		}
		slices.Reverse(l)
		x.must(t, log(20+i, 1+i, l...))
		if slices.ContainsFunc(x.b.Stacks(), func(l []api.Pack) bool { return len(l) > 0 }) {
			t.Errorf("%v", x.b.Stacks())
		}
	}
	a, b := install(6, "a", "1", 5), install(6, "b", "1", 6)
	x.must(t, log(1, 2, a, b, remove(6, "a"), install(5, "c", "1", 7), upgrade(6, "b", "2", 1, 2), install(6, "a", "0", 9), install(1, "c", "1", 8), remove(5, "c")))
	if got := x.b.Roots(1); !slices.Equal(got, []int{1, 5, 6}) {
		t.Errorf("%v", got)
	}
	if got := x.b.Stacks(); !sameStacks(got, [][]api.Pack{{pack(2, "c", "1", 8)}, nil, nil, nil, nil, {pack(2, "b", "2", 1, 2), pack(2, "a", "0", 9)}}) || x.b.Used(2) != 20 {
		t.Errorf("%v, %d", got, x.b.Used(2))
	}
	x.open(t)
}

// Removals beside others, of which each has a place of its own, and a name of any length.
func TestRemovals(t *testing.T) {
	x := opened(t, newDisk(t, 400))
	for i := 1; i <= 16; i++ {
		name, other := long('n', i), long('m', i)
		x.must(t, log(10*i, 3, install(1, name, "1", 5), install(2, other, "1", 6)))
		x.open(t)
		x.must(t, log(10*i+1, 3, remove(1, name), install(1, other, "1", 7), remove(2, other)), shut(10*i))
		x.open(t)
		x.must(t, log(10*i+2, 3, remove(1, other)))
		x.did = ""
	}
	x.open(t)
	if x.b.Used(3) != 0 || len(x.b.Order()) != 48 || len(x.b.Left()) != 32 {
		t.Errorf("%d, %v, %v", x.b.Used(3), x.b.Order(), x.b.Left())
	}
}

func TestClose(t *testing.T) {
	x := run(t, 200, log(7, 1, install(1, "a", "1", 5)), log(300, 1, install(1, "b", "1", 5)), log(2, 1, install(1, "c", "1", 5)))
	for range 2 {
		x.refuses(t, api.ErrNone, shut(1), shut(8), shut(6), shut(7+256), shut(1<<40), shut(0), shut(-7))
		x.open(t)
	}
	x.writes(t, shut(300), 1+3)
	for range 2 {
		if got := x.b.Left(); !slices.Equal(got, []int{7, 2}) {
			t.Errorf("%v", got)
		}
		x.writesNothing(t, shut(300), shut(300))
		x.open(t)
	}
	x.must(t, log(8, 1, remove(1, "b"))) // a closed one stays closed
	x.writesNothing(t, shut(300))
	x.must(t, shut(8), shut(2), shut(7))
	for range 2 {
		x.writesNothing(t, shut(2), shut(7), shut(8), shut(300), shut(2))
		if len(x.b.Left()) != 0 || !slices.Equal(x.b.Order(), []int{7, 300, 2, 8}) {
			t.Errorf("%v, %v", x.b.Left(), x.b.Order())
		}
		x.open(t)
	}
}

// A disk of 8 blocks has 192 bytes for a log: entries of a root, each of 28 bytes with a removal's name of one, till there is no room; what is closed has 11.
func TestNoRoom(t *testing.T) {
	for _, n := range []int{8, 12, 20, 40} {
		x := opened(t, newDisk(t, n))
		x.must(t, log(1, 1, install(1, "a", "1", 5)))
		txn := 2
		for ; ; txn++ {
			batch := ops(remove(1, "a"))
			if txn%2 == 1 {
				batch = ops(install(1, "a", "1", 5))
			}
			if e := x.do(t, log(txn, 1, batch...)); e == api.ErrFull {
				x.refuses(t, api.ErrFull, log(txn, 1, batch...), log(txn+1, 1, batch...))
				break
			}
			x.did = ""
		}
		x.open(t)
		last := 1
		for ; x.do(t, shut(last)) == api.OK; last++ {
			x.did = ""
			if last == txn-1 {
				break
			}
		}
		for closed := 1; closed < last; closed++ {
			x.writesNothing(t, shut(closed))
		}
		if len(x.b.Order()) != txn-1 || len(x.b.Order()) < n/8 {
			t.Errorf("of %d blocks: %v", n, x.b.Order())
		}
		x.did = ""
		x.open(t)
	}
}

// By the byte: a log of 128 bytes, of which the epoch takes 19 in a snapshot, and an installation of a layer 74 and its name and version.
func TestNoRoomByTheByte(t *testing.T) {
	told := map[api.Errno]int{}
	for s := 2; s <= 32; s++ {
		name := max(1, s-16)
		x := opened(t, newDisk(t, 6))
		y := log(7, 1, install(1, long('n', name), long('v', s-name), 1, 2))
		e := x.do(t, y)
		told[e]++
		if e == api.OK {
			x.refuses(t, api.ErrThere, y)
			told[x.do(t, shut(7))]++
		} else {
			x.refuses(t, api.ErrFull, y, y)
			x.refuses(t, api.ErrNone, shut(7))
			x.must(t, log(7, 1, install(1, "a", "1", 1)))
		}
		x.open(t)
	}
	if told[api.OK] < 3 || told[api.ErrFull] < 3 {
		t.Errorf("%v", told)
	}
}

// P20.4: Has, Order, Left, Roots, Stacks, Used, Owner

func TestOfNothing(t *testing.T) {
	b := opened(t, newDisk(t, 6)).b
	if len(b.Order()) != 0 || len(b.Left()) != 0 || len(b.Roots(1)) != 0 || b.Has(1) || b.Has(0) || !sameStacks(b.Stacks(), make([][]api.Pack, 6)) || b.Used(1) != 0 {
		t.Errorf("%v, %v, %v, %d", b.Order(), b.Left(), b.Stacks(), b.Used(1))
	}
}

func TestWhatIsTold(t *testing.T) {
	x := run(t, 400,
		log(9, 2, install(5, "a", "1", 5), install(2, "b", "1", 6, 7)),
		log(3, 1, install(2, "a", "1", 10)),
		log(1<<40, 2, upgrade(2, "b", "2", 20), install(2, "c", "1", 30)),
		log(5, 2, remove(5, "a")), shut(3), shut(5))
	for range 2 {
		b := x.b
		if got := b.Order(); !slices.Equal(got, []int{9, 3, 1 << 40, 5}) {
			t.Errorf("Order %v", got)
		}
		if got := b.Left(); !slices.Equal(got, []int{9, 1 << 40}) {
			t.Errorf("Left %v", got)
		}
		for txn, want := range map[int][]int{9: {2, 5}, 3: {2}, 1 << 40: {2}, 5: {5}, 0: nil, 1: nil, -9: nil, 4: nil, 1<<40 + 1: nil} {
			if got := b.Roots(txn); !slices.Equal(got, want) || b.Has(txn) != (want != nil) {
				t.Errorf("of %d: %v, %v", txn, got, b.Has(txn))
			}
		}
		if got := b.Stacks(); !sameStacks(got, [][]api.Pack{nil, {pack(2, "b", "2", 20), pack(1, "a", "1", 10), pack(2, "c", "1", 30)}, nil, nil, nil, nil}) {
			t.Errorf("Stacks %v", got)
		}
		for owner, want := range map[int]int{1: 10, 2: 50, 3: 0, 0: 0, 9: 0, -1: 0, 257: 0, 258: 0, math.MaxInt: 0, math.MinInt: 0} {
			if got := b.Used(owner); got != want {
				t.Errorf("Used(%d) = %d, want %d", owner, got, want)
			}
		}
		x.open(t)
	}
}

// Stacks and sums of all roots, as great as they may be.
func TestGreatestUsed(t *testing.T) {
	x := opened(t, newDisk(t, 400))
	for root := 1; root <= 6; root++ {
		x.must(t, log(root, 4, install(root, "a", "1", eights(math.MaxInt32)...), install(root, "b", "1", eights(math.MaxInt32)...)))
	}
	if got := x.b.Used(4); got != 6*16*math.MaxInt32 {
		t.Errorf("%d", got)
	}
	x.open(t)
}

func TestManyEntries(t *testing.T) {
	d := newDisk(t, 1200)
	b, _ := Open(d)
	l := manyEntries(300)
	for i, y := range l {
		if e := b.Log(y.txn, y.owner, y.ops); e != api.OK {
			t.Fatalf("%v: %d", y, int(e))
		}
		if got := b.Order(); len(got) != i+1 || got[i] != y.txn {
			t.Fatalf("%v: %v", y, got)
		}
		if y.closed {
			if e := b.Close(y.txn); e != api.OK {
				t.Fatalf("Close of %v: %d", y, int(e))
			}
		}
	}
	isBook(t, b, has{1, l}, "written")
	if got, want := keysOn(d, nil), (has{1, l}).puts(); !slices.Equal(got, want) {
		t.Errorf("%.2000s", shown(got))
	}
	b, e := Open(d)
	if e != api.OK {
		t.Fatal(int(e))
	}
	isBook(t, b, has{2, l}, "Open")
}

// What is told changes nothing, and writes nothing.
func TestTellingWritesNothing(t *testing.T) {
	x := run(t, 100, log(7, 2, install(1, "a", "1", 5)), log(8, 2, install(2, "a", "1", 5)), shut(7))
	done := x.d.Done()
	for range 3 {
		isBook(t, x.b, x.has, "told")
	}
	if x.d.Done() != done {
		t.Errorf("Done %d, want %d", x.d.Done(), done)
	}
}

func TestOwner(t *testing.T) {
	for txn, want := range map[int]int{
		0: 1, 1: 1, 131071: 1, 131072: 2, 262143: 2, 262144: 3, 7*131072 - 1: 7, 7 * 131072: 8, 8*131072 - 1: 8, 8 * 131072: 1, 1048576 + 131072 + 1: 2,
		1 << 40: 1, 1<<40 - 1: 8, 1<<40 + 131072: 2, 1<<62 + 3*131072: 4, math.MaxInt: 8, math.MaxInt - 131072: 7,
		-1: 0, -131072: 0, -131073: 0, -7 * 131072: 0, math.MinInt: 0, math.MinInt + 131072: 0,
	} {
		if got := Owner(txn); got != want {
			t.Errorf("Owner(%d) = %d, want %d", txn, got, want)
		}
	}
	for _, epoch := range []int{0, 1, 2, 77, 1<<20 - 1} { // the first and the last number of each owner, and those beside
		for owner := 1; owner <= 8; owner++ {
			from := epoch*1048576 + (owner-1)*131072
			for _, n := range []int{from, from + 1, from + 65536, from + 131070, from + 131071} {
				if got := Owner(n); got != owner {
					t.Errorf("Owner(%d) = %d, want %d", n, got, owner)
				}
			}
			if got := Owner(from + 131072); got != owner%8+1 {
				t.Errorf("Owner(%d) = %d, want %d", from+131072, got, owner%8+1)
			}
		}
	}
}

// The rule of objects that no call made

func TestNoBook(t *testing.T) {
	refused, _ := Open(nil)
	for name, b := range map[string]*Book{"nil": nil, "plain": {}, "new": new(Book), "of Open": refused} {
		for range 2 { // the first round has changed nothing
			for _, txn := range append(rightTxns(), wrongTxns()...) {
				for _, l := range [][]api.Op{nil, ops(install(1, "a", "1", 5)), make([]api.Op, 9)} {
					for _, owner := range []int{0, 1, 9} {
						if e := b.Log(txn, owner, l); e != api.ErrNil {
							t.Errorf("%s: Log = %d", name, int(e))
						}
					}
				}
				if e := b.Close(txn); e != api.ErrNil || b.Has(txn) || len(b.Roots(txn)) != 0 {
					t.Errorf("%s: Close = %d, %v, %v", name, int(e), b.Has(txn), b.Roots(txn))
				}
			}
			for _, owner := range append(wrongOwners(), 1, 8) {
				if n, e := b.Next(owner); n != 0 || e != api.ErrNil || b.Used(owner) != 0 {
					t.Errorf("%s: Next = %d, %d, Used = %d", name, n, int(e), b.Used(owner))
				}
			}
			if b.Epoch() != 0 || len(b.Order()) != 0 || len(b.Left()) != 0 || len(b.Stacks()) != 0 {
				t.Errorf("%s: %d, %v, %v, %v", name, b.Epoch(), b.Order(), b.Left(), b.Stacks())
			}
		}
	}
}

// All rows of calls

// rowDeeds are calls of two transactions, and opening anew (the one without a name).
func rowDeeds() []deed {
	a := install(1, "a", "1", 5)
	return []deed{log(7, 1, a), log(7, 2, install(2, "b", "1", 5), a), log(8, 1, remove(1, "a"), install(3, "a", "1", 6)), log(8, 2, upgrade(1, "a", "2", 7)), shut(7), shut(8), next(2), {}}
}

func TestAllRows(t *testing.T) {
	for _, n := range []int{40, 8} { // logs of 1216 and of 192 bytes: in the second one there is no room for all
		told := map[string]int{}
		var from func(row []deed)
		from = func(row []deed) {
			x := opened(t, newDisk(t, n))
			for _, y := range row {
				if y.name == "" {
					x.open(t)
				} else {
					told[fmt.Sprint(y.name, " ", int(x.do(t, y)))]++
				}
			}
			for _, y := range rowDeeds() {
				if len(row) < 4 {
					from(append(slices.Clone(row), y))
				}
			}
		}
		from(nil)
		for _, name := range []string{"Log 0", "Log 8", "Log 9", "Log 16", "Close 0", "Close 9", "Next 0"} {
			if told[name] < 10 {
				t.Errorf("of %d blocks: %s came %d times", n, name, told[name])
			}
		}
		if n == 8 && told["Log 7"] < 10 {
			t.Errorf("%v", told)
		}
	}
}

// The errors of the database

// isLost fails where a book whose disk failed takes anything more, or tells anything else than it did. What writes nothing is answered as before.
func isLost(t *testing.T, x *both) {
	t.Helper()
	right := install(6, "lost", "1", 5)
	for _, y := range x.has.entries {
		x.refuses(t, api.ErrThere, log(y.txn, 1, right), log(y.txn, 0))
		if y.closed {
			x.writesNothing(t, shut(y.txn))
		} else {
			x.answers(t, api.ErrDown, shut(y.txn), shut(y.txn))
		}
	}
	x.refuses(t, api.ErrArg, log(0, 1, right), log(1<<40+1, 1, right), log(99, 0, right), next(0))
	x.refuses(t, api.ErrNone, log(99, 1), shut(99))
	x.answers(t, api.ErrDown, log(99, 1, right), log(98, 2, right, remove(6, "lost")))
	x.writesNothing(t, next(1), next(8))
}

// pasts are what was done ahead; deeds are calls that write.

func pasts() [][]deed {
	a, b := install(1, "a", "1", 5), install(2, "b", "1", 300, 1)
	return [][]deed{
		nil,
		{log(9, 1, a)},
		{log(9, 1, a), shut(9)},
		{log(9, 1, b, a), log(8, 2, install(3, "c", "1", 5)), shut(8)},
		{log(9, 2, b), log(8, 2, a, remove(2, "b")), shut(9), shut(8)},
		{log(9, 2, b), log(8, 1, a), log(7, 2, remove(2, "b"))},
	}
}

func deeds() []deed {
	return []deed{log(7, 1, install(4, "a", "1", 5)), log(7, 1, install(4, "b", "2", 5), install(5, "b", "2", 6)), log(6, 1, remove(1, "a")), shut(9), shut(8), shut(7)}
}

// What is told does not change when a Write or a Flush fails, and stays so until the book is opened anew, also when the disk is up again.
func TestErrorsOfTheDisk(t *testing.T) {
	failed := map[string]int{}
	for _, past := range pasts() {
		for _, y := range deeds() {
			for fuse := 0; ; fuse++ {
				x := run(t, 60, past...)
				x.fuse(fuse)
				if e := x.do(t, y); e != api.ErrDown {
					break
				}
				failed[y.name]++
				isLost(t, x)
				x.crash(2, 2, 2)
				isLost(t, x)
				if e := x.open(t); e != api.OK {
					t.Fatalf("behind%s: Open = %d", x.did, int(e))
				}
				x.must(t, log(99, 1, install(6, "lost", "1", 5)), shut(99), next(1))
			}
		}
	}
	if failed["Log"] < 50 || failed["Close"] < 20 {
		t.Errorf("%v", failed)
	}
}

// Open, too, tells the disk's error, wherever it comes.
func TestErrorsOfTheDiskWithinOpen(t *testing.T) {
	failed := 0
	for _, n := range []int{60, 10} { // in the second one the log is reset now and then
		for _, past := range pasts() {
			for opens := range 12 {
				for fuse := 0; ; fuse++ {
					x := opened(t, newDisk(t, n))
					for _, y := range past {
						x.do(t, y)
					}
					for range opens {
						x.open(t)
					}
					ahead := x.has
					x.crash()
					x.fuse(fuse)
					if e := x.open(t); e != api.ErrDown {
						break
					}
					failed++
					x.crash(1)
					if e := x.open(t); e != api.OK || !x.has.is(ahead) || x.has.epoch <= ahead.epoch {
						t.Fatalf("behind%s: %d, %v, want %v", x.did, int(e), x.has, ahead)
					}
				}
			}
		}
	}
	if failed < 300 {
		t.Errorf("%d", failed)
	}
}

// P20.5

// choices are all ways to keep some of the writes that wait.
func choices(waiting []api.Wait) [][]int {
	out := [][]int{nil}
	for _, w := range waiting {
		var longer [][]int
		for _, keep := range out {
			for m := range w.N + 1 {
				longer = append(longer, append(slices.Clone(keep), m))
			}
		}
		out = longer
	}
	return out
}

// explorer looks at all disks that a row of deeds can leave, wherever power is lost.
type explorer struct {
	seen   map[string]bool
	losses int
	olds   map[string]int // by the call that was under way: how often it was not done
	nexts  map[string]int // how often it was
}

func newExplorer() *explorer {
	return &explorer{seen: map[string]bool{}, olds: map[string]int{}, nexts: map[string]int{}}
}

// isEnough fails where fewer losses were looked at of a call, done and not done.
func (x *explorer) isEnough(t *testing.T, losses, olds, nexts int) {
	t.Helper()
	for _, name := range []string{"Open", "Log", "Close"} {
		if x.losses < losses || x.olds[name] < olds || x.nexts[name] < nexts {
			t.Errorf("%d losses, of %s %d without what was under way, %d with it", x.losses, name, x.olds[name], x.nexts[name])
		}
	}
}

// from goes on from a disk that has this, and on which no book was told an epoch above the last one.
func (x *explorer) from(t *testing.T, d *disk.Disk, there has, last, depth int) {
	t.Helper()
	key := fmt.Sprint(depth, last) + durable(d)
	if depth == 0 || x.seen[key] {
		return
	}
	x.seen[key] = true
	for fuse := 0; ; fuse++ {
		z := &both{d: d.Copy(), other: d.Copy(), numbers: map[int]bool{}}
		z.fuse(fuse)
		if e := z.open(t); e != api.ErrDown {
			break
		}
		for _, keep := range choices(z.d.Waiting()) {
			x.lose(t, z.d, keep, deed{name: "Open"}, there, has{there.epoch + 1, there.entries}, last, depth)
		}
	}
	for _, y := range deeds() {
		for fuse := 0; ; fuse++ {
			z := opened(t, d.Copy())
			if !z.has.is(there) || z.has.epoch <= last {
				t.Fatalf("Open: %v, want %v; the last epoch is %d", z.has, there, last)
			}
			z.must(t, next(1), next(8))
			_, next, _ := y.plan(z.has)
			z.fuse(fuse)
			if e := z.do(t, y); e != api.ErrDown {
				z.crash() // takes the fuse away; nothing waits
				x.from(t, z.d, z.has, z.has.epoch, depth-1)
				break
			}
			for _, keep := range choices(z.d.Waiting()) {
				x.lose(t, z.d, keep, y, z.has, next, z.has.epoch, depth)
			}
		}
	}
}

// lose takes the power away, keeping these writes: the book is what it was, or the next one, also behind another opening.
func (x *explorer) lose(t *testing.T, d *disk.Disk, keep []int, y deed, old, next has, last, depth int) {
	t.Helper()
	x.losses++
	d = d.Copy()
	d.Crash(keep)
	found, e := understood(keysOn(d, nil))
	isNext := y.name == "Open" && found.epoch == next.epoch || !found.is(old)
	want := old
	if isNext {
		want = next
	}
	if e != api.OK || !slices.Equal(found.puts(), want.puts()) {
		t.Fatalf("%v, kept %v: %v, %d, want %v", y, keep, found, int(e), want)
	}
	b, e := Open(d.Copy())
	if e != api.OK || b.Epoch() <= last {
		t.Fatalf("%v, kept %v: Open = %d, epoch %d, the last one %d", y, keep, int(e), b.Epoch(), last)
	}
	want.epoch++
	isBook(t, b, want, fmt.Sprintf("%v, kept %v", y, keep))
	if isNext {
		x.nexts[y.name]++
	} else {
		x.olds[y.name]++
	}
	x.from(t, d, found, last, depth-1)
}

func TestEachLossOfPower(t *testing.T) {
	for _, n := range []int{12, 24} { // logs of 320 and of 704 bytes: in the first of them there is no room for all
		x := newExplorer()
		for _, past := range pasts() {
			y := opened(t, newDisk(t, n))
			for _, z := range past {
				y.do(t, z)
			}
			x.from(t, y.d, y.has, y.has.epoch, 2)
		}
		x.isEnough(t, 3000, 100, 20)
	}
}

// The first Open writes a head, and an epoch, and may lose its power; so may the one behind it.
func TestEachLossOfPowerOfTheFirstOpen(t *testing.T) {
	var from func(d *disk.Disk, depth int)
	losses := 0
	from = func(d *disk.Disk, depth int) {
		for fuse := range 7 {
			c := d.Copy()
			c.Fuse(fuse)
			b, e := Open(c)
			if (b == nil) != (e != api.OK) || e != api.OK && e != api.ErrDown {
				t.Fatalf("a fuse of %d: %v, %d", fuse, b, int(e))
			}
			for _, keep := range choices(c.Waiting()) {
				losses++
				again := c.Copy()
				again.Crash(keep)
				y := opened(t, again.Copy())
				if len(y.has.entries) != 0 || e == api.OK && y.has.epoch != b.Epoch()+1 {
					t.Fatalf("a fuse of %d: %v", fuse, y.has)
				}
				y.must(t, log(7, 1, install(1, "a", "1", 5)), shut(7), next(1))
				y.crash()
				y.open(t)
				y.must(t, next(1))
				if depth > 1 {
					from(again, depth-1)
				}
			}
		}
	}
	from(newDisk(t, 8), 3)
	if losses < 100 {
		t.Errorf("%d", losses)
	}
}

// someChoices are ways to keep some of many blocks' writes: none, the first few, the last few, one alone, all but one.
func someChoices(waiting []api.Wait) [][]int {
	out := [][]int{nil}
	for i := range waiting {
		first, alone := make([]int, len(waiting)), make([]int, len(waiting))
		for k := range waiting {
			if k <= i {
				first[k] = 1
			}
		}
		alone[i] = 1
		out = append(out, first, opposite(first), alone, opposite(alone))
	}
	return out
}

func opposite(keep []int) []int {
	var out []int
	for _, m := range keep {
		out = append(out, 1-m)
	}
	return out
}

// Entries of many blocks: all their operations are there, or none of them.
func TestEachLossOfPowerOfGreatEntries(t *testing.T) {
	x := newExplorer()
	for _, n := range []int{140, 400} { // in the first one the log is reset
		for _, past := range [][]deed{{}, {log(1, 8, install(5, "a", "1", eights(1)...), install(6, "a", "1", eights(1)...)), log(2, 8, remove(5, "a")), log(3, 8, remove(6, "a")), shut(1)}} {
			y := log(7, 8, greatest('x')...)
			for fuse := 0; ; fuse++ {
				z := opened(t, newDisk(t, n))
				z.must(t, past...)
				_, next, _ := y.plan(z.has)
				z.fuse(fuse)
				if e := z.do(t, y); e != api.ErrDown {
					if e != api.OK {
						t.Fatalf("of %d blocks: %d", n, int(e))
					}
					break
				}
				for _, keep := range someChoices(z.d.Waiting()) {
					x.lose(t, z.d, keep, y, z.has, next, z.has.epoch, 1)
				}
			}
		}
	}
	if x.losses < 1000 || x.olds["Log"] < 1000 || x.nexts["Log"] < 4 {
		t.Errorf("%d losses, %v, %v", x.losses, x.olds, x.nexts)
	}
}

// Calls, fuses, losses of power and openings, in any order, on disks of all sizes.
func TestRowsByChance(t *testing.T) {
	chance := rand.New(rand.NewSource(20))
	told := map[string]int{}
	for round := range 120 {
		x := opened(t, newDisk(t, []int{8, 12, 20, 40, 100, 400}[round%6]))
		for range 60 {
			x.chance(t, chance, told)
			x.did = ""
		}
	}
	for _, name := range []string{"Log 0", "Log 2", "Log 3", "Log 5", "Log 7", "Log 8", "Log 9", "Log 13", "Log 14", "Log 15", "Log 16", "Close 0", "Close 9", "Close 15", "Next 0", "Next 2", "found old", "found next", "Open 15"} {
		if told[name] < 5 {
			t.Errorf("%s came %d times: %v", name, told[name], told)
		}
	}
}

// chance does one thing, whichever it is; what is lost by it is what was under way, or nothing.
func (x *both) chance(t *testing.T, chance *rand.Rand, told map[string]int) {
	t.Helper()
	if x.d.Up() && chance.Intn(5) == 0 {
		x.fuse(chance.Intn(12))
	}
	old := x.has
	y := anyDeed(chance, old)
	next := old
	if y.name != "Next" {
		_, next, _ = y.plan(old)
	}
	e := x.do(t, y)
	told[fmt.Sprint(y.name, " ", int(e))]++
	if e != api.ErrDown && chance.Intn(8) > 0 {
		return
	}
	if e == api.ErrDown && chance.Intn(3) == 0 {
		isLost(t, x)
	}
	if e != api.ErrDown {
		old, next = x.has, x.has
	}
	epoch := x.has.epoch
	x.crash(keeps(chance, x.d)...)
	for chance.Intn(3) == 0 { // and once more within Open
		x.fuse(chance.Intn(5))
		e := x.open(t)
		told[fmt.Sprint("Open ", int(e))]++
		if e == api.OK {
			epoch = x.has.epoch
			x.must(t, deed{name: "Next", owner: 1 + chance.Intn(8)})
		}
		x.crash(keeps(chance, x.d)...)
	}
	if e := x.open(t); e != api.OK {
		t.Fatalf("behind%s: Open = %d", x.did, int(e))
	}
	switch {
	case x.has.epoch <= epoch:
		t.Fatalf("behind%s: epoch %d", x.did, x.has.epoch)
	case x.has.is(old):
		told["found old"]++
	case x.has.is(next):
		told["found next"]++
	default:
		t.Fatalf("behind%s: %v, want %v or %v", x.did, x.has, old, next)
	}
}

func keeps(chance *rand.Rand, d *disk.Disk) []int {
	var keep []int
	for range d.Waiting() {
		keep = append(keep, chance.Intn(3))
	}
	return keep
}

// anyDeed is a call of a few transactions, owners, roots and names, now and then a wrong one.
func anyDeed(chance *rand.Rand, there has) deed {
	txn := 1 + chance.Intn(60)
	if len(there.entries) > 0 && chance.Intn(4) == 0 {
		txn = there.entries[chance.Intn(len(there.entries))].txn
	}
	if chance.Intn(12) == 0 {
		txn = slices.Concat(rightTxns(), wrongTxns())[chance.Intn(18)]
	}
	owner := 1 + chance.Intn(3)
	if chance.Intn(12) == 0 {
		owner = chance.Intn(12)
	}
	switch chance.Intn(8) {
	case 0, 1:
		return shut(txn)
	case 2:
		return next(owner)
	}
	var l []api.Op
	for range 1 + chance.Intn(3) {
		l = append(l, anyOp(chance))
	}
	if chance.Intn(20) == 0 {
		l = slices.Repeat(l, chance.Intn(10))
	}
	return log(txn, owner, l...)
}

func anyOp(chance *rand.Rand) api.Op {
	root, name, version := 1+chance.Intn(3), []string{"a", "b", long('c', 16)}[chance.Intn(3)], fmt.Sprint(chance.Intn(5))
	sizes := []int{5, 6, 700}[:1+chance.Intn(3)]
	switch chance.Intn(30) {
	case 0:
		return api.Op{Kind: chance.Intn(6), Root: root, Name: name, Version: version, Layers: refs("x", 1)}
	case 1:
		return install(7*chance.Intn(2), name, version, 5)
	case 2:
		return install(root, name, version, make([]int, 9)...)
	}
	switch chance.Intn(6) {
	case 0:
		return upgrade(root, name, version, sizes...)
	case 1:
		return remove(root, name)
	}
	return install(root, name, version, sizes...)
}

// What was written down stays, in its order; what is behind it is the one that was under way, or nothing. No number is told twice. This leans on no model of what is done to the database.
func TestThePastStays(t *testing.T) {
	chance := rand.New(rand.NewSource(31))
	logs, lost := 0, 0
	for round := range 100 {
		d := newDisk(t, []int{12, 20, 60, 200}[round%4])
		b, _ := Open(d)
		var order, left []int
		numbers := map[int]bool{}
		for range 80 {
			if chance.Intn(6) == 0 {
				d.Fuse(chance.Intn(8))
			}
			n, e := b.Next(1 + chance.Intn(8))
			if numbers[n] || e != api.OK {
				t.Fatalf("Next = %d, %d", n, int(e))
			}
			numbers[n] = true
			y := anyDeed(chance, has{})
			if len(left) > 0 && chance.Intn(3) == 0 {
				y = shut(left[chance.Intn(len(left))])
			}
			if y.name == "Next" {
				continue
			}
			stacks := b.Stacks()
			e = call(b, y)
			if e != api.OK && (!slices.Equal(b.Order(), order) || !slices.Equal(b.Left(), left) || !sameStacks(b.Stacks(), stacks)) {
				t.Fatalf("%v = %d: %v, %v", y, int(e), b.Order(), b.Left())
			}
			if e == api.ErrDown {
				lost++
				d.Crash([]int{chance.Intn(2), chance.Intn(2), chance.Intn(2), chance.Intn(2)})
				if b, e = Open(d); e != api.OK {
					t.Fatalf("%v: Open = %d", y, int(e))
				}
			}
			logs += goesOn(t, y, order, left, b)
			order, left = b.Order(), b.Left()
		}
	}
	if logs < 300 || lost < 150 {
		t.Errorf("%d logs, %d losses", logs, lost)
	}
}

// goesOn fails where what was told ahead of a call and what is told behind it do not go together; it counts what was written down.
func goesOn(t *testing.T, y deed, order, left []int, b *Book) int {
	t.Helper()
	nowOrder, nowLeft := b.Order(), b.Left()
	isClosed := y.name == "Close" && slices.Equal(nowLeft, slices.DeleteFunc(slices.Clone(left), func(n int) bool { return n == y.txn }))
	switch {
	case slices.Equal(nowOrder, order) && (slices.Equal(nowLeft, left) || isClosed):
		return 0
	case y.name == "Log" && slices.Equal(nowOrder, append(slices.Clone(order), y.txn)) && slices.Equal(nowLeft, append(slices.Clone(left), y.txn)):
		return 1
	}
	t.Fatalf("%v: %v, %v, behind %v, %v", y, nowOrder, nowLeft, order, left)
	return 0
}

// Rule 5: memory

// roomy is the same operations in lists that have memory behind their lengths; memory all that they stand in, with what is behind the lengths; spoilOps and spoil write over all of it.

func roomy(l []api.Op) []api.Op {
	out := make([]api.Op, 0, len(l)+3)
	for _, op := range l {
		op.Layers = append(make([]api.Ref, 0, len(op.Layers)+3), op.Layers...)
		out = append(out, op)
	}
	for i := range out[:cap(out)] {
		refs := out[:cap(out)][i].Layers
		for k := len(refs); k < cap(refs); k++ {
			refs[:cap(refs)][k].Size = 1000 + k
		}
		if i >= len(out) {
			out[:cap(out)][i].Root = 1000 + i
		}
	}
	return out
}

func memory(l []api.Op) string {
	out := ""
	for _, op := range l[:cap(l)] {
		out += fmt.Sprint(op.Kind, op.Root, op.Name, op.Version, op.Layers[:cap(op.Layers)])
	}
	return out
}

func spoilOps(l []api.Op) {
	l = l[:cap(l)]
	for i := range l {
		spoilRefs(l[i].Layers)
		l[i] = api.Op{Kind: 99, Root: 99, Name: "spoilt"}
	}
}

func spoilRefs(refs []api.Ref) {
	refs = refs[:cap(refs)]
	for k := range refs {
		refs[k] = api.Ref{Sum: api.Digest{99, byte(k)}, Size: 99}
	}
}

func spoil(l [][]api.Pack) {
	l = l[:cap(l)]
	for i := range l {
		packs := l[i][:cap(l[i])]
		for k := range packs {
			spoilRefs(packs[k].Man.Layers)
			packs[k] = api.Pack{Owner: 99, Man: api.Manifest{Name: "spoilt"}}
		}
		l[i] = append(packs, api.Pack{Owner: 99})
	}
}

func spoilNumbers(l []int) {
	l = l[:cap(l)]
	for i := range l {
		l[i] = 99
	}
}

func TestWhatIsHandedInIsNotKept(t *testing.T) {
	given := ops(install(1, "a", "1", 5, 6), install(2, "b", "1", 7), upgrade(1, "a", "2", 1, 2, 3), remove(2, "b"))
	want := has{1, []entry{{7, 2, given, false}}}
	x := opened(t, newDisk(t, 200))
	l := roomy(given)
	ahead := memory(l)
	unchanged := func(why string, e, wanted api.Errno) {
		t.Helper()
		if e != wanted || memory(l) != ahead {
			t.Fatalf("%s: %d, want %d; %s, want %s", why, int(e), int(wanted), memory(l), ahead)
		}
	}
	unchanged("Log", x.b.Log(7, 2, l), api.OK)
	unchanged("Log of what is there", x.b.Log(7, 2, l), api.ErrThere)
	unchanged("Log of what is refused", x.b.Log(8, 2, l), api.ErrThere)
	spoilOps(l)
	isBook(t, x.b, want, "what was handed in was changed")
	b, _ := Open(x.d)
	want.epoch = 2
	isBook(t, b, want, "opened")
}

// What lies behind a list's length is not looked at, whatever it is.
func TestBehindTheLength(t *testing.T) {
	l := append(ops(install(1, "a", "1", 5)), slices.Repeat(ops(install(1, "b", "1", 5), api.Op{}), 5)...)
	x := run(t, 100)
	x.refuses(t, api.ErrNone, log(7, 1, l[:0]...))
	x.must(t, log(7, 1, l[:1]...))
	x.refuses(t, api.ErrThere, log(8, 1, l[:2]...))
	x.must(t, log(8, 1, l[1:2]...))
	x.open(t)
}

func TestWhatIsToldIsNew(t *testing.T) {
	x := run(t, 200, log(7, 2, install(1, "a", "1", 5, 6), install(3, "b", "1", 7)), log(8, 1, install(1, "c", "1", 1, 2, 3)), shut(7), log(9, 1, install(2, "d", "1", 4)))
	for range 2 {
		order, left, roots, stacks := x.b.Order(), x.b.Left(), x.b.Roots(7), x.b.Stacks()
		for range 2 {
			spoilNumbers(x.b.Order())
			spoilNumbers(x.b.Left())
			spoilNumbers(x.b.Roots(7))
			spoil(x.b.Stacks())
			isBook(t, x.b, x.has, "what was told was changed")
		}
		x.must(t, next(1))
		if !slices.Equal(order, []int{7, 8, 9}) || !slices.Equal(left, []int{8, 9}) || !slices.Equal(roots, []int{1, 3}) || !sameStacks(stacks, x.has.stacks()) {
			t.Fatalf("%v, %v, %v, %v", order, left, roots, stacks)
		}
		x.open(t)
	}
	order, left, roots, stacks := x.b.Order(), x.b.Left(), x.b.Roots(7), x.b.Stacks()
	ahead := x.has
	x.must(t, log(10, 2, upgrade(1, "a", "2", 9), remove(3, "b")), shut(8), log(11, 1, remove(1, "c"), install(1, "e", "1", 5)), shut(9))
	if !slices.Equal(order, []int{7, 8, 9}) || !slices.Equal(left, []int{8, 9}) || !slices.Equal(roots, []int{1, 3}) || !sameStacks(stacks, ahead.stacks()) {
		t.Fatalf("what was told was changed: %v, %v, %v, %v", order, left, roots, stacks)
	}
	spoilNumbers(order)
	spoilNumbers(left)
	spoilNumbers(roots)
	spoil(stacks)
	isBook(t, x.b, x.has, "what was told was changed")
}

// The lists of one answer share no memory with one another.
func TestListsOfOneAnswer(t *testing.T) {
	a, b := install(1, "a", "1", 5, 6), install(2, "b", "1", 7, 8)
	b.Layers = a.Layers // handed in, they share
	c := install(1, "c", "1", 7, 8)
	c.Layers = a.Layers
	x := run(t, 200, log(7, 2, a, b, c))
	for range 2 {
		want := x.has.stacks()
		got := x.b.Stacks()
		for _, at := range [][2]int{{0, 0}, {0, 1}, {1, 0}} { // root and place; all behind are as they were
			if !samePack(got[at[0]][at[1]], want[at[0]][at[1]]) {
				t.Fatalf("%v: %v", at, got)
			}
			spoilRefs(got[at[0]][at[1]].Man.Layers)
		}
		got = x.b.Stacks()
		_ = append(got[0], api.Pack{Owner: 99})
		if !samePack(got[1][0], want[1][0]) {
			t.Fatalf("%v", got)
		}
		x.open(t)
	}
}

// Two books of two disks have nothing in common, also where one disk is the other's copy.
func TestBooksOfCopies(t *testing.T) {
	x := run(t, 200, log(7, 1, install(1, "a", "1", 5)))
	y := opened(t, x.d.Copy())
	x.must(t, shut(7), log(8, 1, remove(1, "a")), next(1))
	isBook(t, y.b, y.has, "the other one was changed")
	y.must(t, log(9, 2, install(1, "b", "1", 5)), next(1))
	isBook(t, x.b, x.has, "the other one was changed")
	x.open(t)
	y.open(t)
}
