package blob

import (
	"bytes"
	"crypto/sha256"
	"encoding/binary"
	"encoding/hex"
	"fmt"
	"maps"
	"math"
	"math/rand"
	"slices"
	"strings"
	"testing"

	"veneer/api"
	"veneer/disk"
	"veneer/kv"
	"veneer/wal"
)

// long is a text of n bytes; sumOf the digest of a text; sums the digests of some; own is the hold of what a root has, pin one for a transaction.

func long(c byte, n int) string { return strings.Repeat(string([]byte{c}), n) }

func sumOf(data string) api.Digest { return sha256.Sum256([]byte(data)) }

func sums(data ...string) []api.Digest {
	var l []api.Digest
	for _, s := range data {
		l = append(l, sumOf(s))
	}
	return l
}

func own(root int) api.Hold { return api.Hold{Root: root} }

func pin(root, txn int) api.Hold { return api.Hold{Root: root, Txn: txn} }

// has is what a store has. Its maps are not changed: what changes is another one.
type has struct {
	blobs map[api.Digest]string
	holds map[api.Hold][]api.Digest
}

func (x has) copy() has {
	next := has{blobs: maps.Clone(x.blobs), holds: maps.Clone(x.holds)}
	if next.blobs == nil {
		next.blobs = map[api.Digest]string{}
	}
	if next.holds == nil {
		next.holds = map[api.Hold][]api.Digest{}
	}
	return next
}

func (x has) with(data ...string) has {
	next := x.copy()
	for _, s := range data {
		next.blobs[sumOf(s)] = s
	}
	return next
}

func (x has) without(y api.Digest) has {
	next := x.copy()
	delete(next.blobs, y)
	return next
}

func (x has) holding(h api.Hold, l ...api.Digest) has {
	next := x.copy()
	next.holds[h] = l
	return next
}

func (x has) freed(h api.Hold) has {
	next := x.copy()
	delete(next.holds, h)
	return next
}

func (x has) count(y api.Digest) int {
	n := 0
	for _, l := range x.holds {
		for _, held := range l {
			if held == y {
				n++
			}
		}
	}
	return n
}

func (x has) digests() []api.Digest {
	return slices.SortedFunc(maps.Keys(x.blobs), func(a, b api.Digest) int { return strings.Compare(string(a[:]), string(b[:])) })
}

func (x has) pins() []api.Hold {
	return slices.SortedFunc(maps.Keys(x.holds), func(a, b api.Hold) int {
		if a.Root != b.Root {
			return a.Root - b.Root
		}
		return a.Txn - b.Txn
	})
}

// The keys and values in the database, as the chapter tells them.

func sizeKeyOf(x api.Digest) string { return "s" + string(x[:]) }

func partKeyOf(x api.Digest, i int) string { return "b" + string(x[:]) + string([]byte{byte(i)}) }

func holdKeyOf(root byte, txn uint64) string {
	return "h" + string([]byte{root}) + string(binary.BigEndian.AppendUint64(nil, txn))
}

func number(n int) string { return string(binary.AppendUvarint(nil, uint64(n))) }

func putsOfBlob(x api.Digest, data string) []api.Put {
	l := []api.Put{{Key: sizeKeyOf(x), Value: number(len(data))}}
	for i := 0; 128*i < len(data); i++ {
		l = append(l, api.Put{Key: partKeyOf(x, i), Value: data[128*i : min(128*i+128, len(data))]})
	}
	return l
}

func putOfHold(h api.Hold, l ...api.Digest) api.Put {
	value := ""
	for _, x := range l {
		value += string(x[:])
	}
	return api.Put{Key: holdKeyOf(byte(h.Root), uint64(h.Txn)), Value: value}
}

func goneOf(l ...api.Put) []api.Put {
	var out []api.Put
	for _, p := range l {
		out = append(out, api.Put{Key: p.Key, Gone: true})
	}
	return out
}

// puts are all of what a store has, rising.
func (x has) puts() []api.Put {
	var l []api.Put
	for y, data := range x.blobs {
		l = append(l, putsOfBlob(y, data)...)
	}
	for h, held := range x.holds {
		l = append(l, putOfHold(h, held...))
	}
	return rising(l)
}

func rising(l []api.Put) []api.Put {
	return slices.SortedFunc(slices.Values(l), func(a, b api.Put) int { return strings.Compare(a.Key, b.Key) })
}

// understood is what Open must make of keys and values: it looks for each fault that the chapter's words leave.
func understood(l []api.Put) (has, api.Errno) {
	x := has{}.copy()
	sizes, byteKeys := map[api.Digest]int{}, map[string]string{}
	for _, p := range l {
		switch {
		case len(p.Key) == 33 && p.Key[0] == 's':
			n, ok := sizeIn(p.Value)
			if !ok {
				return has{}, api.ErrForm
			}
			sizes[api.Digest([]byte(p.Key[1:]))] = n
		case len(p.Key) == 34 && p.Key[0] == 'b':
			byteKeys[p.Key] = p.Value
		case len(p.Key) != 10 || p.Key[0] != 'h':
			return has{}, api.ErrForm
		}
	}
	for y, n := range sizes {
		for at := 0; at < n; at += 128 {
			key := partKeyOf(y, at/128)
			if part, ok := byteKeys[key]; !ok || len(part) != min(128, n-at) {
				return has{}, api.ErrForm
			}
			x.blobs[y] += byteKeys[key]
			delete(byteKeys, key)
		}
		x.blobs[y] += ""
	}
	if len(byteKeys) > 0 || !x.takeHolds(l) {
		return has{}, api.ErrForm
	}
	for y, data := range x.blobs {
		if sumOf(data) != y {
			return has{}, api.ErrSum
		}
	}
	return x, api.OK
}

func sizeIn(value string) (int, bool) {
	n, size := binary.Uvarint([]byte(value))
	return int(n), size == len(value) && n <= 2048 && number(int(n)) == value
}

func (x has) takeHolds(l []api.Put) bool {
	for _, p := range l {
		if p.Key[0] != 'h' {
			continue
		}
		root, txn := p.Key[1], binary.BigEndian.Uint64([]byte(p.Key[2:]))
		if root < 1 || root > 6 || txn > 1<<40 || len(p.Value)%32 != 0 || len(p.Value) > 16*32 {
			return false
		}
		var held []api.Digest
		for at := 0; at < len(p.Value); at += 32 {
			y := api.Digest([]byte(p.Value[at : at+32]))
			if _, ok := x.blobs[y]; !ok {
				return false
			}
			held = append(held, y)
		}
		x.holds[pin(int(root), int(txn))] = held
	}
	return true
}

// What is on a disk

func newDisk(t *testing.T, n int) *disk.Disk {
	t.Helper()
	d, e := disk.New(n)
	if e != api.OK {
		t.Fatalf("disk.New(%d) = %d", n, int(e))
	}
	return d
}

// durable is what a disk has behind any loss of power.
func durable(d *disk.Disk) string {
	return string(slices.Concat(d.Image()...))
}

// keysOn are the keys and values that a disk has behind a loss of power that keeps these writes.
func keysOn(d *disk.Disk, keep []int) []api.Put {
	c := d.Copy()
	c.Crash(keep)
	db, _ := kv.Open(c)
	return db.Scan("", "")
}

// shown is keys and values as a text.
func shown(l []api.Put) string {
	var out strings.Builder
	for _, p := range l {
		fmt.Fprintf(&out, " %q: %q,", p.Key, p.Value)
	}
	return out.String()
}

// looks is what a disk tells: whether it is up, how much was done, what waits, and which keys it has, whether all that waits is lost or kept. In which order a batch has its changes the chapter does not say.
func looks(d *disk.Disk) string {
	var all []int
	for _, w := range d.Waiting() {
		all = append(all, w.N)
	}
	return fmt.Sprint(d.Up(), d.Done(), d.Waiting(), shown(keysOn(d, nil)), shown(keysOn(d, all)))
}

// laid is a disk of n blocks with a database of these keys and values.
func laid(t *testing.T, n int, l ...api.Put) *disk.Disk {
	t.Helper()
	d := newDisk(t, n)
	db, _ := kv.Open(d)
	for piece := range slices.Chunk(l, 3) { // three values of 1024 bytes go into a batch
		if e := db.Do(piece); e != api.OK {
			t.Fatalf("Do of%.200s = %d", shown(piece), int(e))
		}
	}
	return d
}

// deed is a call that writes.
type deed struct {
	name string
	data string
	h    api.Hold
	l    []api.Digest
}

func put(data string) deed { return deed{name: "Put", data: data} }

func hold(h api.Hold, l ...api.Digest) deed { return deed{name: "Hold", h: h, l: l} }

func free(h api.Hold) deed { return deed{name: "Free", h: h} }

func turn(h api.Hold) deed { return deed{name: "Turn", h: h} }

func sweep() deed { return deed{name: "Sweep"} }

func (y deed) String() string {
	switch y.name {
	case "Put":
		return fmt.Sprintf("Put of %d bytes %.20q", len(y.data), y.data)
	case "Hold":
		return fmt.Sprintf("Hold %v of %.3x (%d)", y.h, y.l, len(y.l))
	}
	return fmt.Sprintf("%s %v", y.name, y.h)
}

// step is a batch that a deed has to do, and what the store has behind it.
type step struct {
	batch []api.Put
	next  has
}

// steps are what a deed has to do to a store, or the error by which it is refused ahead of that.
func (y deed) steps(x has) ([]step, api.Errno) {
	if y.name != "Put" && y.name != "Sweep" && (y.h.Root < 1 || y.h.Root > 6 || y.h.Txn < 0 || y.h.Txn > 1<<40 || y.name == "Turn" && y.h.Txn == 0) {
		return nil, api.ErrArg
	}
	held, isHold := x.holds[y.h]
	switch y.name {
	case "Put":
		if len(y.data) > 2048 {
			return nil, api.ErrBig
		}
		if _, ok := x.blobs[sumOf(y.data)]; !ok {
			return []step{{putsOfBlob(sumOf(y.data), y.data), x.with(y.data)}}, api.OK
		}
	case "Hold":
		return y.stepsOfHold(x)
	case "Free":
		if isHold {
			return []step{{goneOf(putOfHold(y.h)), x.freed(y.h)}}, api.OK
		}
	case "Turn":
		if isHold {
			batch := append(goneOf(putOfHold(y.h)), putOfHold(own(y.h.Root), held...))
			return []step{{batch, x.freed(y.h).holding(own(y.h.Root), held...)}}, api.OK
		}
	case "Sweep":
		return stepsOfSweep(x), api.OK
	}
	return nil, api.OK
}

func (y deed) stepsOfHold(x has) ([]step, api.Errno) {
	if len(y.l) > 16 {
		return nil, api.ErrBig
	}
	for _, z := range y.l {
		if _, ok := x.blobs[z]; !ok {
			return nil, api.ErrNone
		}
	}
	if held, ok := x.holds[y.h]; ok && slices.Equal(held, y.l) {
		return nil, api.OK
	}
	return []step{{[]api.Put{putOfHold(y.h, y.l...)}, x.holding(y.h, slices.Clone(y.l)...)}}, api.OK
}

func stepsOfSweep(x has) []step {
	var out []step
	for _, z := range x.digests() {
		if x.count(z) == 0 {
			batch := goneOf(putsOfBlob(z, x.blobs[z])...)
			x = x.without(z)
			out = append(out, step{batch, x})
		}
	}
	return out
}

// both is a store on a disk, and what it must be: what it has, and another disk, to whose database all is done by hand that the chapter asks for.
type both struct {
	d, other *disk.Disk
	s        *Store
	db       *kv.DB
	has      has
	went     int // how many steps the last deed did
	did      string
}

// opened opens a store on a disk; nothing else has a hand on it.
func opened(t *testing.T, d *disk.Disk) *both {
	t.Helper()
	x := &both{d: d, other: d.Copy()}
	if e := x.open(t); e != api.OK {
		t.Fatalf("Open = %d", int(e))
	}
	return x
}

// run is a store on a disk of n blocks, behind these deeds.
func run(t *testing.T, n int, deeds ...deed) *both {
	t.Helper()
	x := opened(t, newDisk(t, n))
	x.must(t, deeds...)
	return x
}

// must does deeds that are not refused.
func (x *both) must(t *testing.T, deeds ...deed) {
	t.Helper()
	for _, y := range deeds {
		x.refuses(t, api.OK, y)
	}
}

// refuses does deeds each of which is answered by that error.
func (x *both) refuses(t *testing.T, want api.Errno, deeds ...deed) {
	t.Helper()
	for _, y := range deeds {
		if e := x.do(t, y); e != want {
			t.Fatalf("the last of%.2000s answers %d, want %d", x.did, int(e), int(want))
		}
	}
}

// writesNothing does deeds that are answered OK, and write nothing.
func (x *both) writesNothing(t *testing.T, deeds ...deed) {
	t.Helper()
	done := x.d.Done()
	x.must(t, deeds...)
	if x.d.Done() != done {
		t.Fatalf("%v wrote: Done %d, want %d", deeds, x.d.Done(), done)
	}
}

// open opens the store anew, and fails where it is not what the disk's database has.
func (x *both) open(t *testing.T) api.Errno {
	t.Helper()
	x.did += " Open;"
	db, want := kv.Open(x.other)
	var there has
	if want == api.OK {
		there, want = understood(db.Scan("", ""))
	}
	s, e := Open(x.d)
	if e != want || (s == nil) != (want != api.OK) {
		t.Fatalf("behind%.2000s: %v, %d, want %d", x.did, s, int(e), int(want))
	}
	if e == api.OK {
		x.s, x.db, x.has = s, db, there
		isStore(t, s, there, "behind"+x.did)
	}
	x.isDisk(t)
	return e
}

// do does a deed, and fails where the answer, the store or the disk is not as the chapter says.
func (x *both) do(t *testing.T, y deed) api.Errno {
	t.Helper()
	x.did += " " + y.String() + ";"
	l, want := y.steps(x.has)
	x.went = 0
	for _, z := range l {
		if want = x.db.Do(z.batch); want != api.OK {
			break
		}
		x.has = z.next
		x.went++
	}
	if e := x.call(t, y, want); e != want {
		t.Fatalf("the last of%.2000s answers %d, want %d", x.did, int(e), int(want))
	}
	isStore(t, x.s, x.has, "behind"+x.did)
	x.isDisk(t)
	return want
}

// call calls the store, and fails where it answers anything else than it must beside the error.
func (x *both) call(t *testing.T, y deed, want api.Errno) api.Errno {
	t.Helper()
	switch y.name {
	case "Put":
		told := sumOf(y.data)
		if want != api.OK {
			told = api.Digest{}
		}
		got, e := x.s.Put(y.data)
		if got != told {
			t.Fatalf("the last of%.2000s tells %x, want %x", x.did, got, told)
		}
		return e
	case "Hold":
		return x.s.Hold(y.h, y.l)
	case "Free":
		return x.s.Free(y.h)
	case "Turn":
		return x.s.Turn(y.h)
	}
	n, e := x.s.Sweep()
	if n != x.went {
		t.Fatalf("the last of%.2000s tells %d, want %d", x.did, n, x.went)
	}
	return e
}

func (x *both) isDisk(t *testing.T) {
	t.Helper()
	if got, want := looks(x.d), looks(x.other); got != want {
		t.Fatalf("behind%.2000s: the disk is\n%.2000s, want\n%.2000s", x.did, got, want)
	}
}

func (x *both) fuse(n int) {
	x.did += fmt.Sprintf(" Fuse %d;", n)
	x.d.Fuse(n)
	x.other.Fuse(n)
}

func (x *both) crash(keep ...int) {
	x.did += fmt.Sprintf(" Crash %v;", keep)
	x.d.Crash(keep)
	x.other.Crash(keep)
}

// isStore fails where a store tells anything else than what it must have.
func isStore(t *testing.T, s *Store, x has, why string) {
	t.Helper()
	if got := s.Blobs(); !slices.Equal(got, x.digests()) {
		t.Fatalf("%.2000s: Blobs %x, want %x", why, got, x.digests())
	}
	if got := s.Holds(); !slices.Equal(got, x.pins()) {
		t.Fatalf("%.2000s: Holds %v, want %v", why, got, x.pins())
	}
	for _, y := range append(x.digests(), api.Digest{}, sumOf(""), sumOf("a"), sumOf("never")) {
		want, e := "", api.ErrNone
		if data, ok := x.blobs[y]; ok {
			want, e = data, api.OK
		}
		if got, err := s.Get(y); got != want || err != e {
			t.Fatalf("%.2000s: Get of %x = %.200q, %d, want %.200q, %d", why, y, got, int(err), want, int(e))
		}
		if got := s.Count(y); got != x.count(y) {
			t.Fatalf("%.2000s: Count of %x = %d, want %d", why, y, got, x.count(y))
		}
	}
	for _, h := range append(x.pins(), append(wrongHolds(), own(1), pin(1, 1), pin(2, 7))...) {
		if got := s.Held(h); !slices.Equal(got, x.holds[h]) {
			t.Fatalf("%.2000s: Held of %v = %x, want %x", why, h, got, x.holds[h])
		}
	}
}

// rightHolds are holds that may be, wrongHolds such that may not, at the edges.

func rightHolds() []api.Hold {
	return []api.Hold{own(1), own(6), pin(1, 1), pin(6, 1), pin(3, 255), pin(3, 256), pin(1, 1<<40-1), pin(1, 1<<40), pin(6, 1<<40)}
}

func wrongHolds() []api.Hold {
	return []api.Hold{
		{}, own(7), own(-1), own(8), own(256), own(257), own(-255), own(math.MaxInt), own(math.MinInt), own(1<<32 + 1), own(api.StoreNode),
		pin(0, 7), pin(7, 7), pin(1, -1), pin(6, -1), pin(1, 1<<40+1), pin(6, 1<<40+1), pin(1, math.MaxInt), pin(1, math.MinInt), pin(7, 1<<40+1), pin(257, 7),
	}
}

// P12.1: Open

// isRefused fails where a disk is not refused by that error, or where anything is written.
func isRefused(t *testing.T, d *disk.Disk, want api.Errno) {
	t.Helper()
	ahead := fmt.Sprint(d.Up(), d.Done(), d.Waiting(), d.Image())
	for range 2 {
		if s, e := Open(d); s != nil || e != want {
			t.Fatalf("Open of%.2000s = %v, %d, want %d", shown(keysOn(d, nil)), s, int(e), int(want))
		}
	}
	if now := fmt.Sprint(d.Up(), d.Done(), d.Waiting(), d.Image()); now != ahead {
		t.Fatalf("Open changed the disk: %.1000s, want %.1000s", now, ahead)
	}
}

func TestOpenOfNoDisk(t *testing.T) {
	refused, _ := disk.New(0)
	for _, d := range []*disk.Disk{nil, {}, new(disk.Disk), refused} {
		for range 2 {
			if s, e := Open(d); s != nil || e != api.ErrNil {
				t.Fatalf("Open = %v, %d", s, int(e))
			}
		}
	}
}

func TestOpenOfADiskThatIsDown(t *testing.T) {
	for _, d := range []*disk.Disk{newDisk(t, 1), newDisk(t, 6), newDisk(t, 20), laid(t, 20, putsOfBlob(sumOf("a"), "a")...), laid(t, 20, api.Put{Key: "x"}), laid(t, 20, putsOfBlob(sumOf("a"), "b")...)} {
		d.Fuse(0)
		d.Flush()
		isRefused(t, d, api.ErrDown)
	}
}

func TestOpenOfTooFewBlocks(t *testing.T) {
	for n := 1; n <= 5; n++ {
		isRefused(t, newDisk(t, n), api.ErrArg)
	}
	opened(t, newDisk(t, 6))
}

func TestOpenOfNoughts(t *testing.T) {
	for _, n := range []int{6, 7, 200, 4096} {
		x := opened(t, newDisk(t, n))
		if len(x.s.Blobs()) != 0 || len(x.s.Holds()) != 0 || x.d.Done() != 2 { // what kv.Open does
			t.Errorf("%x, %v, Done %d", x.s.Blobs(), x.s.Holds(), x.d.Done())
		}
		x.open(t)
	}
}

// The errors of the log and of the database are told ahead of all others.
func TestOpenOfNoDatabase(t *testing.T) {
	torn := laid(t, 20, api.Put{Key: "x"}).Image()
	torn[2][9]++
	d, _ := disk.Of(torn)
	isRefused(t, d, api.ErrSum)
	noise := slices.Repeat([][]byte{[]byte(long('x', 64))}, 8)
	d, _ = disk.Of(noise)
	isRefused(t, d, api.ErrSum)
	for _, l := range [][]api.Put{nil, putsOfBlob(sumOf("a"), "a"), putsOfBlob(sumOf("a"), "b")} {
		d = laid(t, 20, l...)
		log, _ := wal.Open(d)
		log.Add("no batch")
		log.Sync()
		isRefused(t, d, api.ErrForm)
	}
}

// rights are stores that may be, at the edges that the chapter names.
func rights() []has {
	none := has{}
	some := none.with("", "a", "b", long('c', 128), long('d', 129), long('e', 300))
	full := some.holding(own(1), slices.Repeat(sums("a"), 16)...).holding(pin(6, 1<<40), sums("", "b", "a", "b")...)
	out := []has{none, some, full}
	for _, n := range []int{0, 1, 2, 127, 128, 129, 255, 256, 257, 1920, 1921, 2047, 2048} {
		out = append(out, none.with(long('x', n)))
	}
	for _, h := range rightHolds() {
		out = append(out, none.holding(h), some.holding(h), some.holding(h, sums("")...), some.holding(h, sums("a", "a", "", "b")...))
		full = full.holding(h, sums("b")...)
	}
	return append(out, full)
}

func TestOpenOfWhatMayBe(t *testing.T) {
	for _, want := range rights() {
		d := laid(t, 1000, want.puts()...)
		done := d.Done()
		s, e := Open(d)
		if e != api.OK || d.Done() != done {
			t.Fatalf("%.1000s: %d, Done %d, want %d", shown(want.puts()), int(e), d.Done(), done)
		}
		isStore(t, s, want, "Open")
		opened(t, d).must(t, put("more"), hold(pin(2, 9), sumOf("more")), sweep()) // and it can be gone on with
	}
}

func TestOpenByHand(t *testing.T) {
	x, y := sumOf("abc"), sumOf(long('y', 130))
	d := laid(t, 40,
		api.Put{Key: "s" + string(x[:]), Value: "\x03"},
		api.Put{Key: "b" + string(x[:]) + "\x00", Value: "abc"},
		api.Put{Key: "s" + string(y[:]), Value: "\x82\x01"},
		api.Put{Key: "b" + string(y[:]) + "\x00", Value: long('y', 128)},
		api.Put{Key: "b" + string(y[:]) + "\x01", Value: "yy"},
		api.Put{Key: "h\x02\x00\x00\x00\x00\x00\x00\x01\x02", Value: string(y[:]) + string(x[:]) + string(y[:])},
		api.Put{Key: "h\x06\x00\x00\x01\x00\x00\x00\x00\x00", Value: ""})
	s, e := Open(d)
	if e != api.OK {
		t.Fatal(int(e))
	}
	if a, e := s.Get(x); a != "abc" || e != api.OK {
		t.Errorf("%q, %d", a, int(e))
	}
	if b, e := s.Get(y); b != long('y', 130) || e != api.OK {
		t.Errorf("%q, %d", b, int(e))
	}
	if !slices.Equal(s.Holds(), []api.Hold{{Root: 2, Txn: 258}, {Root: 6, Txn: 1 << 40}}) || !slices.Equal(s.Held(pin(2, 258)), []api.Digest{y, x, y}) || len(s.Held(pin(6, 1<<40))) != 0 {
		t.Errorf("%v, %x", s.Holds(), s.Held(pin(2, 258)))
	}
	if s.Count(x) != 1 || s.Count(y) != 2 {
		t.Errorf("%d, %d", s.Count(x), s.Count(y))
	}
}

// wrongPuts are what a database has beside a good store (of "", "a" and 300 times e, held by root 1), and must not: keys with a value take the place of those that were there, those that are Gone go.
func wrongPuts() map[string][]api.Put {
	a, e, no := sumOf("a"), sumOf(long('e', 300)), sumOf("never")
	keyOfA, keyOfE := string(a[:]), string(e[:])
	one := func(key, value string) []api.Put { return []api.Put{{Key: key, Value: value}} }
	gone := func(key string) []api.Put { return []api.Put{{Key: key, Gone: true}} }
	out := map[string][]api.Put{
		"a key of no mark":                    one("x", ""),
		"another mark, and a digest":          one("t"+keyOfA, "\x01"),
		"a mark in capitals":                  one("S"+string(no[:]), "\x00"),
		"a byte 0":                            one("\x00", ""),
		"the mark of a size alone":            one("s", "\x00"),
		"the mark of a part alone":            one("b", ""),
		"the mark of a hold alone":            one("h", ""),
		"a size of a digest that is short":    one("s"+keyOfA[:31], "\x00"),
		"a size of a digest that is long":     one("s"+keyOfA+"\x00", "\x00"),
		"a size without its part":             one("s"+string(no[:]), "\x01"),
		"a size of 2049":                      one("s"+keyOfA, number(2049)),
		"a size of 2^32":                      one("s"+keyOfA, number(1<<32+1)),
		"a size of 2^63":                      one("s"+keyOfA, string(binary.AppendUvarint(nil, 1<<63+1))),
		"a size of no bytes":                  one("s"+keyOfA, ""),
		"a size in a longer form":             one("s"+keyOfA, "\x81\x00"),
		"a size of 0 in a longer form":        one(sizeKeyOf(sumOf("")), "\x80\x00"),
		"a size of 0 of no bytes":             one(sizeKeyOf(sumOf("")), ""),
		"a size that ends too soon":           one("s"+keyOfA, "\x81"),
		"a size of 0 that ends too soon":      one(sizeKeyOf(sumOf("")), "\x80"),
		"a size with a byte behind it":        one("s"+keyOfA, "\x01\x00"),
		"a size of 0 with a byte behind it":   one(sizeKeyOf(sumOf("")), "\x00\x00"),
		"a size as a fixed number":            one("s"+keyOfA, "\x00\x00\x00\x00\x00\x00\x00\x01"),
		"a size that is one too little":       one("s"+keyOfA, "\x00"),
		"a size that is one too much":         one("s"+keyOfA, "\x02"),
		"a size that wants a part more":       one("s"+keyOfE, number(385)),
		"a size that wants a part less":       one("s"+keyOfE, number(256)),
		"a size of the parts' edge":           one("s"+keyOfE, number(384)),
		"no size":                             gone("s" + keyOfA),
		"no size of three parts":              gone("s" + keyOfE),
		"no part":                             gone("b" + keyOfA + "\x00"),
		"no first part":                       gone("b" + keyOfE + "\x00"),
		"no second part":                      gone("b" + keyOfE + "\x01"),
		"no last part":                        gone("b" + keyOfE + "\x02"),
		"a part more":                         one("b"+keyOfA+"\x01", "a"),
		"a part more, of no bytes":            one("b"+keyOfA+"\x01", ""),
		"a part more of three":                one("b"+keyOfE+"\x03", "e"),
		"a part far behind":                   one("b"+keyOfE+"\x10", "e"),
		"a part 255":                          one("b"+keyOfE+"\xff", ""),
		"a part of a blob of no bytes":        one(partKeyOf(sumOf(""), 0), ""),
		"a part of a blob that is none":       one("b"+string(no[:])+"\x00", "never"),
		"a part without a place":              one("b"+keyOfA, "a"),
		"a part with a place of two bytes":    one("b"+keyOfA+"\x00\x00", "a"),
		"a part of no bytes":                  one("b"+keyOfA+"\x00", ""),
		"a part that is longer":               one("b"+keyOfA+"\x00", "aa"),
		"a last part that is shorter":         one("b"+keyOfE+"\x02", long('e', 43)),
		"a last part that is longer":          one("b"+keyOfE+"\x02", long('e', 45)),
		"a part of 127":                       one("b"+keyOfE+"\x00", long('e', 127)),
		"a part of 129":                       one("b"+keyOfE+"\x01", long('e', 129)),
		"parts of 127 and 129":                {{Key: "b" + keyOfE + "\x00", Value: long('e', 127)}, {Key: "b" + keyOfE + "\x01", Value: long('e', 129)}},
		"parts of 128, 129 and 43":            {{Key: "b" + keyOfE + "\x01", Value: long('e', 129)}, {Key: "b" + keyOfE + "\x02", Value: long('e', 43)}},
		"one part of all bytes":               {{Key: "b" + keyOfE + "\x00", Value: long('e', 300)}, {Key: "b" + keyOfE + "\x01", Gone: true}, {Key: "b" + keyOfE + "\x02", Gone: true}},
		"one part of all bytes, and no bytes": {{Key: "b" + keyOfE + "\x00", Value: long('e', 300)}, {Key: "b" + keyOfE + "\x01"}, {Key: "b" + keyOfE + "\x02"}},
		"a hold of root 0":                    one(holdKeyOf(0, 7), keyOfA),
		"a hold of root 7":                    one(holdKeyOf(7, 7), keyOfA),
		"a hold of root 255":                  one(holdKeyOf(255, 0), ""),
		"a hold of 2^40 + 1":                  one(holdKeyOf(1, 1<<40+1), keyOfA),
		"a hold of 2^63":                      one(holdKeyOf(1, 1<<63), keyOfA),
		"a hold of 2^63 + 7":                  one(holdKeyOf(1, 1<<63+7), keyOfA),
		"a hold of 2^64 - 1":                  one(holdKeyOf(1, math.MaxUint64), ""),
		"a hold whose key is short":           one(holdKeyOf(2, 0)[:9], ""),
		"a hold whose key is a root alone":    one("h\x02", ""),
		"a hold whose key is long":            one(holdKeyOf(2, 0)+"\x00", ""),
		"a hold of a digest that is none":     one(holdKeyOf(2, 7), string(no[:])),
		"a hold of noughts":                   one(holdKeyOf(2, 7), long(0, 32)),
		"a hold of one and of one more":       one(holdKeyOf(2, 7), keyOfA+keyOfE+string(no[:])),
		"a hold of one byte":                  one(holdKeyOf(2, 7), "x"),
		"a hold of 31 bytes":                  one(holdKeyOf(2, 7), keyOfA[:31]),
		"a hold of 33 bytes":                  one(holdKeyOf(2, 7), keyOfA+"\x00"),
		"a hold of 63 bytes":                  one(holdKeyOf(2, 7), keyOfA+keyOfE[:31]),
		"a hold of 17":                        one(holdKeyOf(2, 7), strings.Repeat(keyOfA, 17)),
		"a hold of 32":                        one(holdKeyOf(2, 7), strings.Repeat(keyOfA, 32)),
		"a hold of 16 and a byte":             one(holdKeyOf(2, 7), strings.Repeat(keyOfA, 16)+"\x00"),
	}
	return out
}

func goodForWrongs() has {
	return has{}.with("", "a", long('e', 300)).holding(own(1), sums("a", "")...)
}

func TestOpenOfAnotherForm(t *testing.T) {
	good := goodForWrongs().puts()
	other := putsOfBlob(sumOf("other"), "wrong") // has another digest: ErrForm is told ahead of that
	for name, wrong := range wrongPuts() {
		for _, l := range [][]api.Put{slices.Concat(good, wrong), slices.Concat(wrong, good, wrong), slices.Concat(good, other, wrong)} {
			d := laid(t, 200, l...)
			if _, e := understood(keysOn(d, nil)); e != api.ErrForm {
				t.Fatalf("%s: %d", name, int(e))
			}
			if s, e := Open(d); s != nil || e != api.ErrForm {
				t.Errorf("%s: %v, %d", name, s, int(e))
			}
			isRefused(t, d, api.ErrForm)
		}
	}
	isRefused(t, laid(t, 200, api.Put{Key: "x", Value: "y"}), api.ErrForm)
	isRefused(t, laid(t, 200, putOfHold(own(1), sumOf("a"))), api.ErrForm)
}

// Blobs of more than MaxBlob bytes, with all their parts.
func TestOpenOfGreatBlobs(t *testing.T) {
	for _, n := range []int{2048, 2049, 2176, 4096, 128 * 255, 128*256 + 1} {
		data := long('g', n)
		d := laid(t, 4096, putsOfBlob(sumOf(data), data)...)
		if n == 2048 {
			opened(t, d)
		} else {
			isRefused(t, d, api.ErrForm)
		}
	}
	x := sumOf(long('g', 16384))
	l := []api.Put{{Key: sizeKeyOf(x), Value: number(16384)}}
	for i := range 16 {
		l = append(l, api.Put{Key: partKeyOf(x, i), Value: long('g', 1024)})
	}
	isRefused(t, laid(t, 4096, l...), api.ErrForm)
}

func TestOpenOfAnotherDigest(t *testing.T) {
	good := goodForWrongs()
	held := good.holding(own(2), sums("", "other")...)
	for _, data := range []string{"", "a", "wrong", long('w', 128), long('w', 129), long('w', 2048)} {
		wrong := putsOfBlob(sumOf("other"), data)
		isRefused(t, laid(t, 200, wrong...), api.ErrSum)
		isRefused(t, laid(t, 200, slices.Concat(good.puts(), wrong)...), api.ErrSum)
		isRefused(t, laid(t, 200, slices.Concat(held.puts(), wrong)...), api.ErrSum)
	}
	isRefused(t, laid(t, 20, api.Put{Key: sizeKeyOf(api.Digest{}), Value: "\x00"}), api.ErrSum)
	e := sumOf(long('e', 300))
	for i, n := range []int{128, 128, 44} { // one byte of one part is another one
		for _, at := range []int{0, n / 2, n - 1} {
			part := []byte(long('e', n))
			part[at] ^= 1
			isRefused(t, laid(t, 200, append(good.puts(), api.Put{Key: partKeyOf(e, i), Value: string(part)})...), api.ErrSum)
		}
	}
	swapped := []api.Put{{Key: sizeKeyOf(sumOf("a")), Value: "\x01"}, {Key: sizeKeyOf(sumOf("b")), Value: "\x01"}, {Key: partKeyOf(sumOf("a"), 0), Value: "b"}, {Key: partKeyOf(sumOf("b"), 0), Value: "a"}}
	isRefused(t, laid(t, 20, swapped...), api.ErrSum)
}

// Each key of a store goes, or it or its value is changed at some place, cut, or lengthened: what Open answers is held against a search for each fault.
func TestOpenOfChangedKeys(t *testing.T) {
	told := map[api.Errno]int{}
	good := goodForWrongs().holding(pin(2, 1<<40), sums("a")...).puts()
	db := func(l []api.Put) {
		t.Helper()
		told[opensAs(t, l)]++
	}
	for i, p := range good {
		rest := slices.Delete(slices.Clone(good), i, i+1)
		db(rest)
		for at := range len(p.Key) {
			for _, c := range []byte{1, 2, 4, 16, 27, 128, 255} { // s, b and h are a few bits apart
				key := []byte(p.Key)
				key[at] ^= c
				db(append(slices.Clone(rest), api.Put{Key: string(key), Value: p.Value}))
				db(append(slices.Clone(good), api.Put{Key: string(key), Value: p.Value}))
			}
			db(append(slices.Clone(rest), api.Put{Key: p.Key[:at+1], Value: p.Value}))
		}
		for _, value := range changedValues(p.Value) {
			db(append(slices.Clone(rest), api.Put{Key: p.Key, Value: value}))
			db(append(slices.Clone(good), api.Put{Key: p.Key + "\x00", Value: value}))
		}
	}
	if told[api.OK] < 20 || told[api.ErrForm] < 500 || told[api.ErrSum] < 50 {
		t.Errorf("%v", told)
	}
}

func changedValues(s string) []string {
	out := []string{"", s + "\x00", s + s, "\x80" + s}
	for at := range len(s) {
		for _, c := range []byte{1, 128, 255} {
			b := []byte(s)
			b[at] ^= c
			out = append(out, string(b))
		}
		out = append(out, s[:at])
	}
	return out
}

// opensAs fails where Open makes anything else of keys and values than understood does. Later ones of a key take the place of those ahead.
func opensAs(t *testing.T, l []api.Put) api.Errno {
	t.Helper()
	d := laid(t, 200, l...)
	want, e := understood(keysOn(d, nil))
	if e != api.OK {
		if s, err := Open(d); s != nil || err != e {
			t.Fatalf("%.3000s: %v, %d, want %d", shown(keysOn(d, nil)), s, int(err), int(e))
		}
		return e
	}
	s, err := Open(d)
	if err != api.OK {
		t.Fatalf("%.3000s: %d", shown(keysOn(d, nil)), int(err))
	}
	isStore(t, s, want, "Open")
	return api.OK
}

func TestOpenByChance(t *testing.T) {
	chance := rand.New(rand.NewSource(12))
	told := map[api.Errno]int{}
	for range 3000 {
		l := anyHas(chance).puts()
		for range chance.Intn(3) {
			l = spoilt(chance, l)
		}
		told[opensAs(t, l)]++
	}
	if told[api.OK] < 500 || told[api.ErrForm] < 500 || told[api.ErrSum] < 50 {
		t.Errorf("%v", told)
	}
}

func anyHas(chance *rand.Rand) has {
	x := has{}
	for range chance.Intn(4) {
		x = x.with(long(byte('a'+chance.Intn(26)), []int{0, 1, 2, 100, 127, 128, 129, 256, 300}[chance.Intn(9)]))
	}
	for range chance.Intn(4) {
		var l []api.Digest
		for i := chance.Intn(18); i < 16 && len(x.blobs) > 0; i++ {
			l = append(l, x.digests()[chance.Intn(len(x.blobs))])
		}
		x = x.holding(rightHolds()[chance.Intn(9)], l...)
	}
	return x
}

// spoilt changes one key, or its value, in one place.
func spoilt(chance *rand.Rand, l []api.Put) []api.Put {
	if len(l) == 0 {
		return []api.Put{{Key: []string{"x", "s", "h", "b"}[chance.Intn(4)]}}
	}
	i := chance.Intn(len(l))
	p := &l[i]
	text := &p.Value
	if chance.Intn(2) == 0 {
		text = &p.Key
	}
	b := []byte(*text)
	switch at := chance.Intn(len(b) + 1); {
	case chance.Intn(5) == 0:
		return slices.Delete(l, i, i+1)
	case at == len(b) || chance.Intn(5) == 0:
		b = slices.Insert(b, at, byte(chance.Intn(256)))
	case chance.Intn(4) == 0 && len(b) > 1:
		b = slices.Delete(b, at, at+1)
	default:
		b[at] ^= 1 << chance.Intn(8)
	}
	*text = string(b)
	return l
}

// P12.2: Put, Get

func TestPutByHand(t *testing.T) {
	d := newDisk(t, 200)
	s, _ := Open(d)
	x, e := s.Put("abc")
	if hex.EncodeToString(x[:4]) != "ba7816bf" || e != api.OK || d.Done() != 2+5 { // two blocks for 86 bytes, a flush, a head, a flush, behind what Open did
		t.Fatalf("%x, %d, Done %d", x, int(e), d.Done())
	}
	y, e := s.Put(long('y', 129))
	if y != sumOf(long('y', 129)) || e != api.OK {
		t.Fatalf("%x, %d", y, int(e))
	}
	done := d.Done()
	for range 2 {
		if z, e := s.Put("abc"); z != x || e != api.OK || d.Done() != done {
			t.Fatalf("%x, %d, Done %d", z, int(e), d.Done())
		}
	}
	want := rising([]api.Put{
		{Key: "s" + string(x[:]), Value: "\x03"}, {Key: "b" + string(x[:]) + "\x00", Value: "abc"},
		{Key: "s" + string(y[:]), Value: "\x81\x01"}, {Key: "b" + string(y[:]) + "\x00", Value: long('y', 128)}, {Key: "b" + string(y[:]) + "\x01", Value: "y"},
	})
	if got := keysOn(d, nil); !slices.Equal(got, want) {
		t.Errorf("%s, want %s", shown(got), shown(want))
	}
	log, _ := wal.Open(d)
	if got := log.Records(); len(got) != 2 { // a batch each
		t.Errorf("%q", got)
	}
}

func TestPutOfEachSize(t *testing.T) {
	for n := range 2049 {
		if n > 300 && n%128 > 1 && n%128 < 127 && n%61 > 0 {
			continue
		}
		x := run(t, 100, put(long('x', n)))
		x.open(t)
		if got, e := x.s.Get(sumOf(long('x', n))); got != long('x', n) || e != api.OK {
			t.Fatalf("of %d bytes: %d bytes, %d", n, len(got), int(e))
		}
		if keys, want := len(keysOn(x.d, nil)), 1+(n+127)/128; keys != want {
			t.Fatalf("of %d bytes: %d keys, want %d", n, keys, want)
		}
	}
}

func TestPutOfAllBytes(t *testing.T) {
	var every []byte
	for i := range 2048 {
		every = append(every, byte(i*i/256+i))
	}
	x := run(t, 400, put(string(every)), put(string(every[:128])), put(string(every[1:])), put("\x00"), put("\xff\xfe"))
	x.open(t)
}

func TestPutOfTooMuch(t *testing.T) {
	for _, n := range []int{200, 6} { // also where there is no room
		x := run(t, n, put("a"))
		x.refuses(t, api.ErrBig, put(long('x', 2049)), put(long('x', 2050)), put(long('x', 4096)), put(long('x', 1<<20)))
		if x.d.Done() != 7 {
			t.Errorf("Done %d", x.d.Done())
		}
		x.open(t)
	}
}

func TestPutOfWhatIsThere(t *testing.T) {
	texts := []string{"", "a", long('b', 128), long('c', 129), long('d', 2048)}
	x := opened(t, newDisk(t, 400))
	for _, s := range texts {
		x.must(t, put(s))
		x.writesNothing(t, put(s), put(s))
	}
	x.open(t)
	for _, s := range texts {
		x.writesNothing(t, put(s))
	}
	x.must(t, hold(own(1), sumOf("a")), sweep()) // all others went
	x.writesNothing(t, put("a"))
	for _, s := range texts {
		x.must(t, put(s))
	}
	x.open(t)
}

func TestGet(t *testing.T) {
	x := run(t, 200, put("a"), put(""), put(long('b', 300)))
	none := []api.Digest{{}, sumOf("never"), sumOf("A"), sumOf(long('b', 299)), {0: 1}, {31: 1}}
	near := sumOf("a")
	near[31] ^= 1
	for _, y := range append(none, near) {
		if got, e := x.s.Get(y); got != "" || e != api.ErrNone {
			t.Errorf("Get of %x = %q, %d", y, got, int(e))
		}
	}
	done := x.d.Done()
	for _, s := range []string{"a", "", long('b', 300)} {
		if got, e := x.s.Get(sumOf(s)); got != s || e != api.OK {
			t.Errorf("%q, %d, want %q", got, int(e), s)
		}
	}
	if x.d.Done() != done {
		t.Errorf("Get wrote")
	}
	x.must(t, sweep())
	for _, s := range []string{"a", "", long('b', 300)} {
		if got, e := x.s.Get(sumOf(s)); got != "" || e != api.ErrNone {
			t.Errorf("swept away: %q, %d", got, int(e))
		}
	}
	x.open(t)
	x.must(t, put("a"))
	if got, e := x.s.Get(sumOf("a")); got != "a" || e != api.OK {
		t.Errorf("%q, %d", got, int(e))
	}
}

// P12.3: Hold, Free, Turn

func TestTheExample(t *testing.T) {
	s, _ := Open(newDisk(t, 100))
	x, _ := s.Put("abc")
	if e := s.Hold(pin(1, 7), []api.Digest{x}); e != api.OK || s.Count(x) != 1 {
		t.Fatalf("Hold = %d, Count %d", int(e), s.Count(x))
	}
	if e := s.Turn(pin(1, 7)); e != api.OK || !slices.Equal(s.Held(own(1)), []api.Digest{x}) || len(s.Held(pin(1, 7))) != 0 {
		t.Fatalf("Turn = %d, Held %x", int(e), s.Held(own(1)))
	}
	if n, e := s.Sweep(); n != 0 || e != api.OK {
		t.Fatalf("Sweep = %d, %d", n, int(e))
	}
	if e := s.Free(own(1)); e != api.OK {
		t.Fatalf("Free = %d", int(e))
	}
	if n, e := s.Sweep(); n != 1 || e != api.OK {
		t.Fatalf("Sweep = %d, %d", n, int(e))
	}
	if got, e := s.Get(x); got != "" || e != api.ErrNone {
		t.Fatalf("Get = %q, %d", got, int(e))
	}
}

func TestHoldByHand(t *testing.T) {
	d := newDisk(t, 100)
	s, _ := Open(d)
	a, _ := s.Put("a")
	b, _ := s.Put("b")
	done := d.Done()
	if e := s.Hold(pin(2, 258), []api.Digest{b, a, b}); e != api.OK || d.Done() != done+6 { // 118 bytes in three blocks, a flush, a head, a flush
		t.Fatalf("%d, Done %d", int(e), d.Done()-done)
	}
	if s.Count(a) != 1 || s.Count(b) != 2 || !slices.Equal(s.Held(pin(2, 258)), []api.Digest{b, a, b}) || !slices.Equal(s.Holds(), []api.Hold{{Root: 2, Txn: 258}}) {
		t.Errorf("%d, %d, %x", s.Count(a), s.Count(b), s.Held(pin(2, 258)))
	}
	key := "h\x02\x00\x00\x00\x00\x00\x00\x01\x02"
	if p := keysOn(d, nil)[2]; p != (api.Put{Key: key, Value: string(b[:]) + string(a[:]) + string(b[:])}) {
		t.Errorf("%q: %q", p.Key, p.Value)
	}
}

func TestHoldOfEachHold(t *testing.T) {
	x := run(t, 400, put("a"), put("b"), put(""))
	for _, h := range rightHolds() {
		x.must(t, hold(h, sums("a", "b")...))
	}
	x.open(t)
	for _, h := range rightHolds() {
		x.writesNothing(t, hold(h, sums("a", "b")...))
		x.must(t, hold(h, sums("b", "a")...), hold(h, sums("b")...), hold(h), hold(h, sums("", "", "a")...))
	}
	x.open(t)
}

func TestHoldsThatMayNotBe(t *testing.T) {
	x := run(t, 100, put("a"), hold(own(1), sumOf("a")), hold(pin(1, 7), sumOf("a")))
	done := x.d.Done()
	for _, h := range wrongHolds() {
		x.refuses(t, api.ErrArg, hold(h), hold(h, sumOf("a")), free(h), turn(h))
		// that it may not be is named ahead of what is wrong with its digests
		x.refuses(t, api.ErrArg, hold(h, slices.Repeat(sums("a"), 17)...), hold(h, sumOf("never")), hold(h, slices.Repeat(sums("never"), 17)...))
	}
	for root := 1; root <= 6; root++ {
		x.refuses(t, api.ErrArg, turn(own(root)))
	}
	if x.d.Done() != done {
		t.Errorf("Done %d, want %d", x.d.Done(), done)
	}
	x.open(t)
}

func TestHoldOfManyDigests(t *testing.T) {
	x := run(t, 200, put("a"), put("b"))
	for n := range 17 {
		x.must(t, hold(pin(1, 7), slices.Repeat(sums("a"), n)...))
		if x.s.Count(sumOf("a")) != n {
			t.Errorf("Count %d, want %d", x.s.Count(sumOf("a")), n)
		}
	}
	done := x.d.Done()
	for _, n := range []int{17, 18, 32, 1000} {
		x.refuses(t, api.ErrBig, hold(pin(1, 7), slices.Repeat(sums("a"), n)...), hold(pin(1, 8), slices.Repeat(sums("b"), n)...))
		x.refuses(t, api.ErrBig, hold(pin(1, 7), slices.Repeat(sums("never"), n)...)) // ahead of that they are not there
	}
	if x.d.Done() != done || x.s.Count(sumOf("a")) != 16 {
		t.Errorf("Done %d, want %d, Count %d", x.d.Done(), done, x.s.Count(sumOf("a")))
	}
	x.open(t)
}

func TestHoldOfWhatIsNotThere(t *testing.T) {
	x := run(t, 200, put("a"), put("b"), hold(pin(1, 7), sumOf("a")))
	done := x.d.Done()
	for at := range 16 {
		l := slices.Repeat(sums("a"), 16)
		l[at] = sumOf("never")
		x.refuses(t, api.ErrNone, hold(pin(1, 7), l...), hold(pin(1, 8), l...), hold(own(1), l[:at+1]...))
	}
	x.refuses(t, api.ErrNone, hold(pin(1, 7), api.Digest{}))
	if x.d.Done() != done || x.s.Count(sumOf("a")) != 1 {
		t.Errorf("Done %d, want %d", x.d.Done(), done)
	}
	x.must(t, sweep()) // b goes
	x.refuses(t, api.ErrNone, hold(pin(1, 8), sumOf("b")), hold(pin(1, 7), sums("a", "b")...))
	x.must(t, put("b"), hold(pin(1, 8), sumOf("b")))
	x.open(t)
}

// A hold of no digests is a hold: it stands in the database, and a root may have nothing.
func TestHoldOfNoDigests(t *testing.T) {
	x := run(t, 200, put("a"))
	done := x.d.Done()
	x.must(t, hold(pin(1, 7)))
	if x.d.Done() == done || !slices.Equal(x.s.Holds(), []api.Hold{pin(1, 7)}) || len(x.s.Held(pin(1, 7))) != 0 {
		t.Errorf("Done %d, Holds %v", x.d.Done(), x.s.Holds())
	}
	x.writesNothing(t, hold(pin(1, 7)))
	x.must(t, hold(own(1), sumOf("a")), turn(pin(1, 7)))
	if !slices.Equal(x.s.Holds(), []api.Hold{own(1)}) || x.s.Count(sumOf("a")) != 0 {
		t.Errorf("Holds %v, Count %d", x.s.Holds(), x.s.Count(sumOf("a")))
	}
	x.must(t, sweep())
	if x.went != 1 {
		t.Errorf("%d went", x.went)
	}
	x.open(t)
	x.must(t, free(own(1)))
	x.writesNothing(t, free(own(1)))
	x.open(t)
}

func TestHoldOfJustThat(t *testing.T) {
	x := run(t, 200, put("a"), put("b"), put("c"), hold(pin(1, 7), sums("a", "b", "a")...))
	x.writesNothing(t, hold(pin(1, 7), sums("a", "b", "a")...))
	for _, l := range [][]api.Digest{sums("a", "a", "b"), sums("b", "a", "a"), sums("a", "b"), sums("a", "b", "a", "a"), sums("c"), nil, sums("a", "b", "a")} {
		done := x.d.Done()
		x.must(t, hold(pin(1, 7), l...))
		if x.d.Done() == done {
			t.Errorf("%x was not written", l)
		}
		x.writesNothing(t, hold(pin(1, 7), l...))
		x.open(t)
		x.writesNothing(t, hold(pin(1, 7), l...))
	}
	x.must(t, hold(pin(2, 7), sums("a", "b", "a")...), hold(own(1), sums("a", "b", "a")...)) // what others hold is another thing
}

func TestFree(t *testing.T) {
	x := run(t, 200, put("a"), put("b"), hold(own(1), sumOf("a")), hold(pin(1, 7), sums("a", "b")...), hold(pin(2, 7), sumOf("b")))
	x.writesNothing(t, free(own(2)), free(pin(1, 8)), free(pin(6, 1<<40)), free(pin(3, 7)))
	done := x.d.Done()
	x.must(t, free(pin(1, 7)))
	if x.d.Done() == done || x.s.Count(sumOf("a")) != 1 || x.s.Count(sumOf("b")) != 1 || !slices.Equal(x.s.Holds(), []api.Hold{own(1), pin(2, 7)}) {
		t.Errorf("Done %d, %v", x.d.Done(), x.s.Holds())
	}
	x.writesNothing(t, free(pin(1, 7)), free(pin(1, 7)))
	x.open(t)
	x.writesNothing(t, free(pin(1, 7)))
	x.must(t, hold(pin(1, 7), sumOf("b")), free(pin(1, 7)), free(own(1)), free(pin(2, 7)), sweep())
	if len(keysOn(x.d, nil)) != 0 {
		t.Errorf("%s", shown(keysOn(x.d, nil)))
	}
}

func TestTurn(t *testing.T) {
	x := run(t, 200, put("a"), put("b"), put("c"), hold(pin(1, 7), sums("a", "b", "a")...), hold(pin(2, 7), sumOf("c")))
	x.writesNothing(t, turn(pin(1, 8)), turn(pin(3, 7)), turn(pin(6, 1<<40)))
	log, _ := wal.Open(x.d)
	records := len(log.Records())
	x.must(t, turn(pin(1, 7)))
	if log, _ = wal.Open(x.d); len(log.Records()) != records+1 { // one batch
		t.Errorf("%d batches", len(log.Records())-records)
	}
	if !slices.Equal(x.s.Held(own(1)), sums("a", "b", "a")) || !slices.Equal(x.s.Holds(), []api.Hold{own(1), pin(2, 7)}) {
		t.Errorf("%x, %v", x.s.Held(own(1)), x.s.Holds())
	}
	x.writesNothing(t, turn(pin(1, 7)), turn(pin(1, 7)))
	x.open(t)
	x.writesNothing(t, turn(pin(1, 7)))
	x.must(t, hold(pin(1, 9), sumOf("c")), turn(pin(1, 9))) // over what the root had
	if !slices.Equal(x.s.Held(own(1)), sums("c")) || x.s.Count(sumOf("a")) != 0 || x.s.Count(sumOf("c")) != 2 {
		t.Errorf("%x", x.s.Held(own(1)))
	}
	x.must(t, hold(pin(1, 10), sumOf("c")), turn(pin(1, 10))) // over just the same: the other hold goes
	if !slices.Equal(x.s.Holds(), []api.Hold{own(1), pin(2, 7)}) {
		t.Errorf("%v", x.s.Holds())
	}
	x.must(t, hold(pin(1, 11)), turn(pin(1, 11)), hold(pin(6, 1<<40), sumOf("b")), turn(pin(6, 1<<40)), turn(pin(2, 7)))
	x.open(t)
	x.must(t, sweep())
	if x.went != 1 { // a, of which root 1 has nothing any more
		t.Errorf("%d went", x.went)
	}
}

func TestTurnOfManyRoots(t *testing.T) {
	x := run(t, 400, put("a"), put("b"))
	for root := 1; root <= 6; root++ {
		x.must(t, hold(pin(root, 7), sumOf("a")), hold(pin(root, 8), sums("b", "a")...))
	}
	for root := 6; root >= 1; root-- {
		x.must(t, turn(pin(root, 8)))
		x.must(t, turn(pin(root, 7)))
	}
	x.open(t)
	if x.s.Count(sumOf("a")) != 6 || x.s.Count(sumOf("b")) != 0 {
		t.Errorf("%d, %d", x.s.Count(sumOf("a")), x.s.Count(sumOf("b")))
	}
}

// P12.4: Sweep

func TestSweep(t *testing.T) {
	x := opened(t, newDisk(t, 400))
	x.writesNothing(t, sweep())
	texts := []string{"", "a", "b", long('c', 128), long('d', 129), long('e', 2048)}
	for _, s := range texts {
		x.must(t, put(s))
	}
	x.must(t, hold(pin(1, 7), sums("a", "", "a")...), hold(own(2), sumOf(long('d', 129))))
	log, _ := wal.Open(x.d)
	records := len(log.Records())
	x.must(t, sweep())
	if x.went != 3 {
		t.Errorf("%d went", x.went)
	}
	if log, _ = wal.Open(x.d); len(log.Records()) != records+3 { // a batch each
		t.Errorf("%d batches", len(log.Records())-records)
	}
	x.writesNothing(t, sweep())
	x.open(t)
	x.writesNothing(t, sweep())
	if got := x.s.Blobs(); len(got) != 3 || len(keysOn(x.d, nil)) != 8 {
		t.Errorf("%x, %d keys", got, len(keysOn(x.d, nil)))
	}
	x.must(t, free(pin(1, 7)), free(own(2)), sweep())
	if x.went != 3 || len(x.s.Blobs()) != 0 || len(keysOn(x.d, nil)) != 0 {
		t.Errorf("%d went", x.went)
	}
	x.writesNothing(t, sweep())
	x.open(t)
}

// In which order blobs go is seen where the power is lost between them.
func TestSweepInOrder(t *testing.T) {
	x := opened(t, newDisk(t, 400))
	for i := range 8 {
		x.must(t, put(fmt.Sprint(i)))
	}
	all := x.s.Blobs()
	x.must(t, hold(pin(3, 3), all[2], all[5]))
	left := [][]api.Digest{all, all[1:], all[2:], {all[2], all[4], all[5], all[6], all[7]}, {all[2], all[5], all[6], all[7]}, {all[2], all[5], all[7]}, {all[2], all[5]}} // behind so many that went
	told := map[int]int{}
	for fuse := 0; ; fuse++ {
		y := opened(t, x.d.Copy())
		y.fuse(fuse)
		e := y.do(t, sweep())
		told[y.went]++
		if got := y.s.Blobs(); !slices.Equal(got, left[y.went]) {
			t.Fatalf("%d went: %x, want %x", y.went, got, left[y.went])
		}
		if e == api.OK {
			break
		}
	}
	for went := range left {
		if told[went] == 0 {
			t.Errorf("none was lost behind %d: %v", went, told)
		}
	}
}

// What anybody holds is not swept away, whoever holds it, and however often.
func TestSweepOfWhatIsHeld(t *testing.T) {
	for _, h := range rightHolds() {
		x := run(t, 200, put("a"), put("b"), hold(h, sumOf("a")), hold(pin(2, 2), sums("b", "b")...))
		x.writesNothing(t, sweep())
		x.open(t)
		x.writesNothing(t, sweep())
		x.must(t, hold(pin(2, 2), sumOf("b")))
		x.writesNothing(t, sweep())
		x.must(t, hold(h), sweep()) // in the place of what it held
		if x.went != 1 || !slices.Equal(x.s.Blobs(), sums("b")) {
			t.Errorf("%v: %d went, %x", h, x.went, x.s.Blobs())
		}
	}
}

// P12.5: Blobs, Holds, Held, Count

func TestBlobsRise(t *testing.T) {
	x := opened(t, newDisk(t, 1000))
	for i := range 60 {
		x.must(t, put(fmt.Sprint(i)))
		got := x.s.Blobs()
		for k := range len(got) - 1 {
			if bytes.Compare(got[k][:], got[k+1][:]) >= 0 {
				t.Fatalf("%x is not below %x", got[k], got[k+1])
			}
		}
		if len(got) != i+1 {
			t.Fatalf("%d of %d", len(got), i+1)
		}
	}
	x.open(t)
}

func TestHoldsInOrder(t *testing.T) {
	want := []api.Hold{own(1), pin(1, 1), pin(1, 2), pin(1, 255), pin(1, 256), pin(1, 65536), pin(1, 1<<40), own(2), pin(2, 1), pin(3, 1<<40), own(4), pin(5, 9), pin(5, 10), own(6), pin(6, 1<<40)}
	x := run(t, 400, put("a"))
	for _, i := range rand.New(rand.NewSource(3)).Perm(len(want)) {
		x.must(t, hold(want[i], slices.Repeat(sums("a"), i)...))
	}
	if got := x.s.Holds(); !slices.Equal(got, want) {
		t.Errorf("%v, want %v", got, want)
	}
	x.open(t)
	if got := x.s.Holds(); !slices.Equal(got, want) {
		t.Errorf("%v, want %v", got, want)
	}
	for i, h := range want {
		if len(x.s.Held(h)) != i {
			t.Errorf("%v: %d", h, len(x.s.Held(h)))
		}
	}
	if x.s.Count(sumOf("a")) != 105 {
		t.Errorf("%d", x.s.Count(sumOf("a")))
	}
}

func TestOfNothing(t *testing.T) {
	s := opened(t, newDisk(t, 6)).s
	if len(s.Blobs()) != 0 || len(s.Holds()) != 0 || len(s.Held(own(1))) != 0 || s.Count(sumOf("")) != 0 || s.Count(api.Digest{}) != 0 {
		t.Errorf("%x, %v", s.Blobs(), s.Holds())
	}
}

// The rule of objects that no call made

func TestNoStore(t *testing.T) {
	refused, _ := Open(nil)
	for name, s := range map[string]*Store{"nil": nil, "plain": {}, "new": new(Store), "of Open": refused} {
		for range 2 { // the first round has changed nothing
			for _, data := range []string{"", "a", long('x', 2049)} {
				if x, e := s.Put(data); x != (api.Digest{}) || e != api.ErrNil {
					t.Errorf("%s: Put = %x, %d", name, x, int(e))
				}
				if got, e := s.Get(sumOf(data)); got != "" || e != api.ErrNil {
					t.Errorf("%s: Get = %q, %d", name, got, int(e))
				}
				if s.Count(sumOf(data)) != 0 {
					t.Errorf("%s: Count = %d", name, s.Count(sumOf(data)))
				}
			}
			for _, h := range append(rightHolds(), wrongHolds()...) {
				for _, l := range [][]api.Digest{nil, sums("a"), slices.Repeat(sums("a"), 17)} {
					if e := s.Hold(h, l); e != api.ErrNil {
						t.Errorf("%s: Hold = %d", name, int(e))
					}
				}
				if free, turn := s.Free(h), s.Turn(h); free != api.ErrNil || turn != api.ErrNil || len(s.Held(h)) != 0 {
					t.Errorf("%s: Free = %d, Turn = %d, Held %x", name, int(free), int(turn), s.Held(h))
				}
			}
			if n, e := s.Sweep(); n != 0 || e != api.ErrNil {
				t.Errorf("%s: Sweep = %d, %d", name, n, int(e))
			}
			if len(s.Blobs()) != 0 || len(s.Holds()) != 0 {
				t.Errorf("%s: %x, %v", name, s.Blobs(), s.Holds())
			}
		}
	}
}

// The errors of the database

// A disk of 12 blocks has 320 bytes for a log. There a blob of no bytes has 46, one of up to 127 bytes 83 more than its bytes, a hold of one digest 54.
func TestPutAndHoldWithoutRoom(t *testing.T) {
	x := run(t, 12, put(""), put(long('a', 100)), hold(own(1), sumOf(""))) // 283 bytes
	done := x.d.Done()
	x.refuses(t, api.ErrFull, put("b"), put(long('c', 300)), put(long('d', 2048)), hold(pin(1, 7), sums("", "")...), hold(own(1), slices.Repeat(sums(""), 4)...), put("b"))
	x.refuses(t, api.ErrBig, put(long('x', 2049)))
	x.refuses(t, api.ErrNone, hold(pin(1, 7), sumOf("b")))
	x.writesNothing(t, put(""), put(long('a', 100)), hold(own(1), sumOf("")), free(pin(1, 7)), turn(pin(1, 7)))
	if x.d.Done() != done {
		t.Errorf("Done %d, want %d", x.d.Done(), done)
	}
	x.must(t, hold(pin(2, 7))) // 21 bytes
	x.open(t)
	x.must(t, turn(pin(2, 7)), hold(own(2), sumOf("")), free(own(1)), sweep(), put("b"), put("c"), free(own(2)), sweep(), put(long('a', 100)))
	x.open(t)
}

// bytesOf counts the bytes of a batch.
func bytesOf(l []api.Put) int {
	s, _ := kv.Encode(l)
	return len(s)
}

// full is a disk whose log other hands filled to the last byte, by batches of just 4096 bytes. Rising by their keys the same keys and values go into more batches, which have no room, not even where something small of them goes. Root 1 holds no digests for transaction 1. Two blobs are not held: one of no bytes, and one above it that is greater.
func full(t *testing.T) *disk.Disk {
	t.Helper()
	d := newDisk(t, 3080) // for 24 such batches
	db, _ := kv.Open(d)
	l := append(putsOfBlob(sumOf(""), ""), putOfHold(pin(1, 1)))
	l = append(l, putsOfBlob(sumOf(above), above)...)
	for i := range 24 {
		var mine []api.Digest
		for left := 4096; left > 0; { // for the bytes of the last blob: a blob of so few has 74 more, five holds of 16 digests have 2630
			left = 4096 - max(1, bytesOf(l)) - 5*526 - 74
			data := fmt.Sprintf("%02d%02d", i, len(mine))
			if left < 128 {
				data, left = data+long('.', left-4), 0
			}
			mine = append(mine, sumOf(data))
			l = append(l, putsOfBlob(sumOf(data), data)...)
		}
		for k := range 5 {
			var held []api.Digest
			for at := range 16 {
				held = append(held, mine[(16*k+at)%len(mine)])
			}
			l = append(l, putOfHold(pin(2+k, 1+i), held...))
		}
		if e := db.Do(l); e != api.OK || bytesOf(l) != 4096 {
			t.Fatalf("%d: %d, %d bytes", i, int(e), bytesOf(l))
		}
		l = nil
	}
	return d
}

// above is a text whose digest is above that of no bytes.
const above = "a text of some hundred bytes, the digest of which begins with ff, so that it is swept behind others: 185"

func TestEachCallWithoutRoom(t *testing.T) {
	if a, b := sumOf(above), sumOf(""); bytes.Compare(a[:], b[:]) <= 0 {
		t.Fatalf("%x is not above %x", a, b)
	}
	x := opened(t, full(t))
	done := x.d.Done()
	x.refuses(t, api.ErrFull, put("new"), hold(own(1)), hold(pin(1, 1), sumOf("")), hold(pin(1, 2), sumOf("")), free(pin(1, 1)), turn(pin(1, 1)), turn(pin(2, 1)), turn(pin(6, 24)), sweep(), sweep())
	x.writesNothing(t, put(""), put(above), hold(pin(1, 1)), free(own(1)), turn(pin(1, 2)))
	if x.d.Done() != done || x.went != 0 {
		t.Errorf("Done %d, want %d", x.d.Done(), done)
	}
	x.open(t)
	x.refuses(t, api.ErrFull, sweep(), free(pin(1, 1)))
	x.must(t, free(pin(3, 7))) // which is greater
	x.must(t, free(pin(1, 1)), turn(pin(2, 1)), sweep())
	if x.went != 2 { // all that the other one held others hold too
		t.Errorf("%d went", x.went)
	}
	x.open(t)
}

// isLost fails where a store whose disk failed takes anything more, or tells anything else than it did. What writes nothing is answered as before.
func isLost(t *testing.T, x *both) {
	t.Helper()
	x.refuses(t, api.ErrDown, put("lost"), put(long('l', 2048)), hold(pin(6, 6)), hold(pin(6, 6), x.has.digests()...))
	for _, h := range x.has.pins() {
		x.refuses(t, api.ErrDown, free(h))
		if h.Txn > 0 {
			x.refuses(t, api.ErrDown, turn(h))
		}
		x.writesNothing(t, hold(h, x.has.holds[h]...))
	}
	for _, data := range x.has.blobs {
		x.writesNothing(t, put(data))
	}
	x.writesNothing(t, free(pin(6, 6)), turn(pin(6, 6)))
	x.refuses(t, api.ErrBig, put(long('l', 2049)), hold(own(1), slices.Repeat(sums(""), 17)...))
	x.refuses(t, api.ErrArg, hold(own(7)), free(own(0)), turn(own(1)))
	x.refuses(t, api.ErrNone, hold(own(1), sumOf("lost")))
	if x.do(t, sweep()); x.went != 0 {
		t.Fatalf("behind%.2000s: %d went", x.did, x.went)
	}
}

// pasts are what was done ahead; deeds are calls that write.

func pasts() [][]deed {
	return [][]deed{
		nil,
		{put("")},
		{put(""), put("a"), hold(pin(1, 7), sumOf("a"))},
		{put("a"), put(long('c', 130)), hold(own(1), sumOf("a")), hold(pin(1, 7), sumOf(long('c', 130)), sumOf("a"))},
		{put(""), put("a"), put("b"), hold(pin(1, 7)), hold(own(1), sums("a", "b")...)},
	}
}

func deeds() []deed {
	return []deed{put(""), put("a"), put("b"), put(long('c', 130)), hold(own(1)), hold(pin(1, 7), sumOf("")), hold(pin(1, 7), sums("a", "a")...), free(own(1)), free(pin(1, 7)), turn(pin(1, 7)), sweep()}
}

// What is told does not change when a Write or a Flush fails, and stays so until the store is opened anew, also when the disk is up again.
func TestErrorsOfTheDisk(t *testing.T) {
	failed := map[string]int{}
	for _, past := range pasts() {
		for _, y := range deeds() {
			for fuse := 0; ; fuse++ {
				x := run(t, 40, past...)
				x.fuse(fuse)
				if e := x.do(t, y); e != api.ErrDown {
					break
				}
				failed[y.name]++
				isLost(t, x)
				x.crash(2, 2, 2)
				isLost(t, x)
				if e := x.open(t); e != api.OK {
					t.Fatalf("behind%s: Open = %d", x.did, int(e))
				}
				x.must(t, put("n"), hold(pin(6, 6), sumOf("n")), free(pin(6, 6)))
			}
		}
	}
	for _, name := range []string{"Put", "Hold", "Free", "Turn", "Sweep"} {
		if failed[name] < 5 {
			t.Errorf("%s failed at %d places", name, failed[name])
		}
	}
}

// P12.6

// choices are all ways to keep some of the writes that wait.
func choices(waiting []api.Wait) [][]int {
	out := [][]int{nil}
	for _, w := range waiting {
		var longer [][]int
		for _, keep := range out {
			for m := range w.N + 1 {
				longer = append(longer, append(slices.Clone(keep), m))
			}
		}
		out = longer
	}
	return out
}

// explorer looks at all disks that a row of deeds can leave, wherever power is lost.
type explorer struct {
	seen   map[string]bool
	losses int
	olds   int // how often what was under way was not there
	nexts  int // how often it was
}

// from goes on from a disk whose store has this.
func (x *explorer) from(t *testing.T, d *disk.Disk, there has, depth int) {
	t.Helper()
	key := fmt.Sprint(depth) + durable(d)
	if depth == 0 || x.seen[key] {
		return
	}
	x.seen[key] = true
	for _, y := range deeds() {
		for fuse := 0; ; fuse++ {
			z := opened(t, d.Copy())
			isStore(t, z.s, there, "Open")
			l, _ := y.steps(there)
			z.fuse(fuse)
			if e := z.do(t, y); e != api.ErrDown {
				z.crash() // takes the fuse away; nothing waits
				x.from(t, z.d, z.has, depth-1)
				break
			}
			for _, keep := range choices(z.d.Waiting()) {
				x.lose(t, z.d, keep, z.has, l[z.went].next, depth)
			}
		}
	}
}

// lose takes the power away, keeping these writes: the store has what it had, or the next one, also behind another loss within Open.
func (x *explorer) lose(t *testing.T, d *disk.Disk, keep []int, old, next has, depth int) {
	t.Helper()
	x.losses++
	d = d.Copy()
	d.Crash(keep)
	found := old
	for _, why := range []string{"and opened", "and lost it again"} {
		d.Fuse(0)
		s, e := Open(d)
		if e != api.OK {
			t.Fatalf("kept %v, %s: Open = %d", keep, why, int(e))
		}
		if why == "and opened" && (!slices.Equal(s.Blobs(), old.digests()) || !slices.Equal(s.Holds(), old.pins()) || slices.ContainsFunc(s.Holds(), func(h api.Hold) bool { return !slices.Equal(s.Held(h), old.holds[h]) })) {
			found = next
		}
		isStore(t, s, found, fmt.Sprintf("kept %v, %s", keep, why))
		d.Flush() // goes down, if it did not within Open
		d.Crash(nil)
	}
	if slices.Equal(found.puts(), old.puts()) {
		x.olds++
	} else {
		x.nexts++
	}
	x.from(t, d, found, depth-1)
}

func TestEachLossOfPower(t *testing.T) {
	for _, n := range []int{12, 20} { // logs of 320 and of 576 bytes: in the first of them there is no room for all
		x := &explorer{seen: map[string]bool{}}
		for _, past := range pasts() {
			y := opened(t, newDisk(t, n))
			for _, z := range past {
				y.do(t, z)
			}
			x.from(t, y.d, y.has, 2)
		}
		if x.losses < 10000 || x.olds < 1000 || x.nexts < 1000 {
			t.Errorf("of %d blocks: %d losses, %d of them without what was under way, %d with it", n, x.losses, x.olds, x.nexts)
		}
	}
}

// The first Open writes, and may lose its power; so may the one behind it.
func TestEachLossOfPowerWithinOpen(t *testing.T) {
	var from func(d *disk.Disk, depth int)
	from = func(d *disk.Disk, depth int) {
		for fuse := range 3 {
			c := d.Copy()
			c.Fuse(fuse)
			s, e := Open(c)
			if (s == nil) != (e != api.OK) || e != api.OK && e != api.ErrDown {
				t.Fatalf("a fuse of %d: %v, %d", fuse, s, int(e))
			}
			for _, keep := range choices(c.Waiting()) {
				again := c.Copy()
				again.Crash(keep)
				y := opened(t, again.Copy())
				isStore(t, y.s, has{}, "Open")
				y.must(t, put(""), hold(pin(1, 7), sumOf("")))
				y.crash()
				y.open(t)
				isStore(t, y.s, has{}.with("").holding(pin(1, 7), sumOf("")), "Open")
				if depth > 1 {
					from(again, depth-1)
				}
			}
		}
	}
	from(newDisk(t, 6), 3)
}

// Blobs of many blocks: all their parts are there, or none of them; likewise when they go.
func TestEachLossOfPowerOfGreatBlobs(t *testing.T) {
	great, greater := long('g', 700), long('h', 2048)
	x := &explorer{}
	for _, past := range [][]deed{nil, {put(great)}, {put(great), put("a"), hold(own(1), sumOf("a"))}, {put(great), put(greater), hold(pin(1, 7), sums(great, greater)...)}} {
		for _, y := range []deed{put(great), put(greater), hold(pin(1, 7), slices.Repeat(sums(great), 16)...), turn(pin(1, 7)), sweep()} {
			for fuse := 0; ; fuse++ {
				z := run(t, 200, past...)
				l, _ := y.steps(z.has)
				z.fuse(fuse)
				if e := z.do(t, y); e != api.ErrDown {
					break
				}
				for _, keep := range someChoices(z.d.Waiting()) {
					x.lose(t, z.d, keep, z.has, l[z.went].next, 1)
				}
			}
		}
	}
	if x.losses < 10000 || x.olds < 1000 || x.nexts < 10 { // the next one is there only where its head was kept
		t.Errorf("%d losses, %d of them without what was under way, %d with it", x.losses, x.olds, x.nexts)
	}
}

// someChoices are ways to keep some of many blocks' writes: none, the first few, the last few, one alone, all but one.
func someChoices(waiting []api.Wait) [][]int {
	out := [][]int{nil}
	for i := range waiting {
		first, alone := make([]int, len(waiting)), make([]int, len(waiting))
		for k := range waiting {
			if k <= i {
				first[k] = 1
			}
		}
		alone[i] = 1
		out = append(out, first, opposite(first), alone, opposite(alone))
	}
	return out
}

func opposite(keep []int) []int {
	var out []int
	for _, m := range keep {
		out = append(out, 1-m)
	}
	return out
}

// Calls, fuses, losses of power and openings, in any order, on disks of all sizes.
func TestRowsByChance(t *testing.T) {
	chance := rand.New(rand.NewSource(12))
	told := map[string]int{}
	for round := range 120 {
		x := opened(t, newDisk(t, []int{6, 9, 12, 20, 60, 400}[round%6]))
		for range 60 {
			x.chance(t, chance, told)
			x.did = ""
		}
	}
	for _, name := range []string{"Put 0", "Put 3", "Put 7", "Put 15", "Hold 0", "Hold 2", "Hold 3", "Hold 7", "Hold 9", "Hold 15", "Free 0", "Free 2", "Free 15", "Turn 0", "Turn 2", "Turn 15", "Sweep 0", "Sweep 15", "found old", "found next"} {
		if told[name] < 10 {
			t.Errorf("%s came %d times: %v", name, told[name], told)
		}
	}
}

// chance does one thing, whichever it is; what is lost by it is what was under way, or nothing.
func (x *both) chance(t *testing.T, chance *rand.Rand, told map[string]int) {
	t.Helper()
	if x.d.Up() && chance.Intn(5) == 0 {
		x.fuse(chance.Intn(12))
	}
	y := anyDeed(chance, x.has)
	l, _ := y.steps(x.has)
	e := x.do(t, y)
	told[fmt.Sprint(y.name, " ", int(e))]++
	if e != api.ErrDown && chance.Intn(8) > 0 {
		return
	}
	if e == api.ErrDown && chance.Intn(3) == 0 {
		isLost(t, x)
	}
	old, next := x.has, x.has
	if e == api.ErrDown {
		next = l[x.went].next
	}
	var keep []int
	for range x.d.Waiting() {
		keep = append(keep, chance.Intn(3))
	}
	x.crash(keep...)
	if e := x.open(t); e != api.OK {
		t.Fatalf("behind%s: Open = %d", x.did, int(e))
	}
	switch got := shown(x.has.puts()); {
	case got == shown(old.puts()):
		told["found old"]++
	case got == shown(next.puts()):
		told["found next"]++
	default:
		t.Fatalf("behind%s:%.500s, want%.500s or%.500s", x.did, got, shown(old.puts()), shown(next.puts()))
	}
}

// anyDeed is a call of a few blobs and a few holds, now and then a wrong one.
func anyDeed(chance *rand.Rand, there has) deed {
	texts := []string{"", "a", "b", "c", long('d', 127), long('e', 128), long('f', 129), long('g', 500), long('h', 2048), long('i', 2049)}
	holds := []api.Hold{own(1), own(2), own(6), pin(1, 1), pin(1, 2), pin(2, 1), pin(6, 1<<40)}
	h := holds[chance.Intn(len(holds))]
	if chance.Intn(12) == 0 {
		h = wrongHolds()[chance.Intn(len(wrongHolds()))]
	}
	switch chance.Intn(10) {
	case 0, 1, 2, 3:
		return put(texts[min(chance.Intn(len(texts)), chance.Intn(len(texts)))])
	case 4, 5, 6:
		var l []api.Digest
		for range []int{0, 1, 2, 3, 16, 17}[min(chance.Intn(6), chance.Intn(6))] {
			if all := there.digests(); len(all) > 0 && chance.Intn(30) > 0 {
				l = append(l, all[chance.Intn(len(all))])
			} else {
				l = append(l, sumOf(texts[chance.Intn(len(texts))]))
			}
		}
		return hold(h, l...)
	case 7:
		return free(h)
	case 8:
		return turn(h)
	}
	return sweep()
}

// Rule 5: memory

func TestWhatIsHandedInIsNotKept(t *testing.T) {
	x := run(t, 200, put("a"), put("b"), put("c"))
	text := []byte("text")
	x.must(t, put(string(text)))
	text[0] = 'T'
	memory := slices.Concat(sums("a", "b", "a"), sums("behind", "it"))
	given := slices.Clone(memory)
	for _, h := range []api.Hold{pin(1, 7), own(2)} {
		if e := x.s.Hold(h, memory[:3]); e != api.OK || !slices.Equal(memory, given) {
			t.Fatalf("%d, %x, want %x", int(e), memory, given)
		}
	}
	if e := x.s.Hold(pin(1, 7), memory[:3]); e != api.OK || !slices.Equal(memory, given) { // what it holds already
		t.Fatalf("%d, %x, want %x", int(e), memory, given)
	}
	if e := x.s.Hold(pin(1, 8), memory[:4]); e != api.ErrNone || !slices.Equal(memory, given) {
		t.Fatalf("%d, %x, want %x", int(e), memory, given)
	}
	for i := range memory {
		memory[i] = sumOf("c")
	}
	want := x.has.holding(pin(1, 7), given[:3]...).holding(own(2), given[:3]...)
	isStore(t, x.s, want, "what was handed in was changed")
	if e := x.s.Turn(pin(1, 7)); e != api.OK {
		t.Fatal(int(e))
	}
	want = want.freed(pin(1, 7)).holding(own(1), given[:3]...)
	isStore(t, x.s, want, "and turned")
	s, _ := Open(x.d)
	isStore(t, s, want, "opened")
}

func TestWhatIsToldIsNew(t *testing.T) {
	x := run(t, 200, put("a"), put("b"), put("c"), hold(own(1), sums("a", "b")...), hold(pin(1, 7), sums("a", "b")...), hold(pin(2, 7), sumOf("c")))
	blobs, holds, held := x.s.Blobs(), x.s.Holds(), x.s.Held(own(1))
	others := x.s.Held(own(1))
	spoil(x.s.Blobs(), sumOf("spoilt"))
	spoil(x.s.Holds(), pin(5, 5))
	for _, h := range x.s.Holds() {
		spoil(x.s.Held(h), sumOf("spoilt"))
	}
	isStore(t, x.s, x.has, "what was told was changed")
	if !slices.Equal(others, sums("a", "b")) {
		t.Errorf("%x", others)
	}
	x.open(t)
	for _, h := range x.s.Holds() {
		spoil(x.s.Held(h), sumOf("spoilt"))
	}
	isStore(t, x.s, x.has, "what was told behind Open was changed")
	x.must(t, turn(pin(1, 7)), turn(pin(2, 7)), hold(own(1), sumOf("c")), put("d"), sweep())
	if !slices.Equal(blobs, has{}.with("a", "b", "c").digests()) || !slices.Equal(holds, []api.Hold{own(1), pin(1, 7), pin(2, 7)}) || !slices.Equal(held, sums("a", "b")) {
		t.Errorf("what was told was changed: %x, %v, %x", blobs, holds, held)
	}
}

// spoil writes over a list, and over what lies behind its length.
func spoil[T any](l []T, with T) {
	l = l[:cap(l)]
	for i := range l {
		l[i] = with
	}
}

// What a hold held is the root's own behind Turn: what becomes of the one changes nothing of the other.
func TestHoldsShareNothing(t *testing.T) {
	x := run(t, 200, put("a"), put("b"), hold(pin(1, 7), sums("a", "b")...), turn(pin(1, 7)))
	x.must(t, hold(pin(1, 7), sums("b", "b")...), hold(pin(1, 8), sums("a", "b")...), free(own(1)), hold(own(1), sums("b")...), turn(pin(1, 8)))
	x.open(t)
	x.must(t, hold(own(1), sums("b", "a")...), free(pin(1, 7)))
	x.open(t)
}

// Two stores of two disks have nothing in common, also where one disk is the other's copy.
func TestStoresOfCopies(t *testing.T) {
	x := run(t, 200, put("a"), hold(pin(1, 7), sumOf("a")))
	y := opened(t, x.d.Copy())
	x.must(t, put("b"), turn(pin(1, 7)))
	isStore(t, y.s, y.has, "the other one was changed")
	y.must(t, free(pin(1, 7)), sweep())
	isStore(t, x.s, x.has, "the other one was changed")
	x.open(t)
	y.open(t)
}
