package wal

import (
	"encoding/binary"
	"fmt"
	"hash/crc32"
	"math"
	"math/rand"
	"slices"
	"strings"
	"testing"

	"veneer/api"
	"veneer/disk"
)

// filled is bytes with noughts behind them, n in all; summed is bytes as a head has them: noughts up to 60, and their sum.

func filled(s string, n int) string { return s + strings.Repeat("\x00", n-len(s)) }

func summed(s string) string {
	b := []byte(filled(s, 60))
	return string(binary.LittleEndian.AppendUint32(b, crc32.ChecksumIEEE(b)))
}

// headBytes is a head as the chapter tells it, of any numbers.
func headBytes(s uint64, a byte, k int) string {
	b := binary.BigEndian.AppendUint64([]byte{'V', 'H', a, 0}, s)
	return summed(string(binary.BigEndian.AppendUint32(b, uint32(k))))
}

// frameBytes is the frames of records, one behind the other, as chapter 4 tells them.
func frameBytes(recs ...string) string {
	out := ""
	for _, rec := range recs {
		b := append(binary.LittleEndian.AppendUint32(nil, uint32(len(rec))), rec...)
		out += string(binary.LittleEndian.AppendUint32(b, crc32.ChecksumIEEE(b)))
	}
	return out
}

// unframed tells the records whose frames a text is, if it is.
func unframed(text string) (recs []string, ok bool) {
	for text != "" {
		if len(text) < 8 {
			return nil, false
		}
		n := int(binary.LittleEndian.Uint32([]byte(text)))
		if n > 4096 || n+8 > len(text) || frameBytes(text[4:4+n]) != text[:n+8] {
			return nil, false
		}
		recs, text = append(recs, text[4:4+n]), text[n+8:]
	}
	return recs, true
}

// long is a record of n bytes whose frame is of n + 8.
func long(c byte, n int) string { return strings.Repeat(string([]byte{c}), n) }

// newDisk is one of noughts; diskOf one with these two blocks at its beginning, and bytes in its areas.

func newDisk(t *testing.T, n int) *disk.Disk {
	t.Helper()
	d, e := disk.New(n)
	if e != api.OK {
		t.Fatalf("disk.New(%d) = %d", n, int(e))
	}
	return d
}

func diskOf(t *testing.T, n int, first, second string, areas ...string) *disk.Disk {
	t.Helper()
	all := filled(first, 64) + filled(second, 64)
	for _, text := range areas {
		all += filled(text, (n-2)/2*64)
	}
	all = filled(all, n*64)
	var image [][]byte
	for i := range n {
		image = append(image, []byte(all[i*64:i*64+64]))
	}
	d, e := disk.Of(image)
	if e != api.OK {
		t.Fatalf("disk.Of = %d", int(e))
	}
	return d
}

// texts are the blocks of a disk as they are durable; last as they were written last.

func texts(d *disk.Disk) []string {
	var out []string
	for _, b := range d.Image() {
		out = append(out, string(b))
	}
	return out
}

func last(d *disk.Disk) []string {
	c := d.Copy()
	var keep []int
	for _, w := range c.Waiting() {
		keep = append(keep, w.N)
	}
	c.Crash(keep)
	return texts(c)
}

// isSameDisk fails where two disks are not the same in all that they tell.
func isSameDisk(t *testing.T, got, want *disk.Disk, why string) {
	t.Helper()
	if got.Done() != want.Done() || got.Up() != want.Up() || !slices.Equal(got.Waiting(), want.Waiting()) {
		t.Fatalf("%s: Done %d, Up %v, Waiting %v, want %d, %v, %v", why, got.Done(), got.Up(), got.Waiting(), want.Done(), want.Up(), want.Waiting())
	}
	if !slices.Equal(texts(got), texts(want)) {
		t.Fatalf("%s: durable is\n%.3000q, want\n%.3000q", why, texts(got), texts(want))
	}
	if len(want.Waiting()) > 0 && !slices.Equal(last(got), last(want)) {
		t.Fatalf("%s: what waits is\n%.3000q, want\n%.3000q", why, last(got), last(want))
	}
}

// op is a write of a block, or a flush (of block -1).
type op struct {
	block int
	b     string
}

func (o op) on(d *disk.Disk) api.Errno {
	if o.block < 0 {
		return d.Flush()
	}
	return d.Write(o.block, []byte(o.b))
}

// call is one that may change a log: Add of one record, Sync, Reset of records.
type call struct {
	name string
	recs []string
}

func add(rec string) call       { return call{"Add", []string{rec}} }
func sync() call                { return call{"Sync", nil} }
func reset(recs ...string) call { return call{"Reset", recs} }

func (x call) on(l *Log) api.Errno {
	switch x.name {
	case "Add":
		return l.Add(x.recs[0])
	case "Sync":
		return l.Sync()
	}
	return l.Reset(x.recs)
}

// paper is a log by the chapter's words.
type paper struct {
	m       int // blocks of an area
	number  uint64
	area    int
	records []string
	waiting []string
	isLost  bool
}

func (p paper) used() int { return len(frameBytes(p.records...)) }

func (p paper) room() int { return 64*p.m - p.used() - len(frameBytes(p.waiting...)) }

// behind is the log behind a call, what the call does to the disk, and what it answers, if the disk lets all of that through.
func (p paper) behind(x call) (paper, []op, api.Errno) {
	switch {
	case p.isLost:
		return p, nil, api.ErrDown
	case x.name == "Add":
		return p.added(x.recs[0])
	case x.name == "Sync":
		return p.synced()
	}
	return p.reset(x.recs)
}

func (p paper) added(rec string) (paper, []op, api.Errno) {
	switch {
	case len(rec) > 4096:
		return p, nil, api.ErrBig
	case len(rec)+8 > p.room():
		return p, nil, api.ErrFull
	}
	p.waiting = slices.Concat(p.waiting, []string{rec})
	return p, nil, api.OK
}

func (p paper) synced() (paper, []op, api.Errno) {
	if len(p.waiting) == 0 {
		return p, nil, api.OK
	}
	first := p.used() / 64 // the block in which the length ends, or the one behind it
	p.records, p.waiting = slices.Concat(p.records, p.waiting), nil
	return p.moved(first)
}

func (p paper) reset(recs []string) (paper, []op, api.Errno) {
	sum := 0
	for _, rec := range recs {
		sum += len(rec) + 8
	}
	switch {
	case len(p.waiting) > 0:
		return p, nil, api.ErrState
	case slices.ContainsFunc(recs, func(rec string) bool { return len(rec) > 4096 }):
		return p, nil, api.ErrBig
	case sum > 64*p.m:
		return p, nil, api.ErrFull
	}
	p.area, p.records = 1-p.area, slices.Clone(recs)
	return p.moved(0)
}

// moved writes the blocks of the area from that one on, and the next head.
func (p paper) moved(first int) (paper, []op, api.Errno) {
	p.number++
	all := frameBytes(p.records...)
	var ops []op
	for i := first; i*64 < len(all); i++ {
		ops = append(ops, op{2 + p.area*p.m + i, filled(all[i*64:min(i*64+64, len(all))], 64)})
	}
	head := op{int(p.number % 2), headBytes(p.number, byte(p.area), len(all))}
	return p, append(ops, op{block: -1}, head, op{block: -1}), api.OK
}

// found is the log that Open finds on a disk, what it does there, and what it answers.
func found(d *disk.Disk) (paper, []op, api.Errno) {
	switch {
	case d.Blocks() == 0:
		return paper{}, nil, api.ErrNil
	case !d.Up():
		return paper{}, nil, api.ErrDown
	case d.Blocks() < 6:
		return paper{}, nil, api.ErrArg
	}
	p, length := paper{m: (d.Blocks() - 2) / 2}, 0
	blocks := last(d)
	if blocks[0]+blocks[1] == filled("", 128) {
		p.number = 1
		return p, []op{{1, headBytes(1, 0, 0)}, {block: -1}}, api.OK
	}
	for i, b := range blocks[:2] {
		s, a, k := binary.BigEndian.Uint64([]byte(b[4:])), b[2], int(binary.BigEndian.Uint32([]byte(b[12:])))
		if b == headBytes(s, a, k) && s >= 1 && s <= 1<<60 && int(s%2) == i && a <= 1 && k <= 64*p.m && s > p.number {
			p.number, p.area, length = s, int(a), k
		}
	}
	records, ok := unframed(strings.Join(blocks[2+p.area*p.m:], "")[:length])
	if p.number == 0 || !ok {
		return paper{}, nil, api.ErrSum
	}
	p.records = records
	return p, nil, api.OK
}

// both is a log on a disk, and its paper with another disk, to which all is done by hand that the chapter asks for.
type both struct {
	d, other *disk.Disk
	l        *Log
	p        paper
	did      string
}

// opened opens a log on a disk; nothing else has a hand on it.
func opened(t *testing.T, d *disk.Disk) *both {
	t.Helper()
	b := &both{d: d, other: d.Copy()}
	if e := b.open(t); e != api.OK {
		t.Fatalf("Open of %.1000q = %d", texts(d), int(e))
	}
	return b
}

// run is a log on a disk of n blocks, behind these calls.
func run(t *testing.T, n int, calls ...call) *both {
	t.Helper()
	b := opened(t, newDisk(t, n))
	for _, x := range calls {
		b.do(t, x)
	}
	return b
}

// byHand does to the other disk what it should have done to it, and tells the error of the first that is refused.
func (b *both) byHand(ops []op) api.Errno {
	for _, o := range ops {
		if e := o.on(b.other); e != api.OK {
			return e
		}
	}
	return api.OK
}

// open opens the log anew, and fails where it is not the one that the disk has.
func (b *both) open(t *testing.T) api.Errno {
	t.Helper()
	b.did += " Open;"
	p, ops, want := found(b.other)
	if want == api.OK {
		want = b.byHand(ops)
	}
	l, e := Open(b.d)
	if e != want || (l == nil) != (want != api.OK) {
		t.Fatalf("behind%.2000s: %v, %d, want %d", b.did, l, int(e), int(want))
	}
	isSameDisk(t, b.d, b.other, "behind"+b.did)
	if e == api.OK {
		b.l, b.p = l, p
		b.isTold(t)
	}
	return e
}

// do calls the log, and fails where the answer, the log or the disk is not as the chapter says.
func (b *both) do(t *testing.T, x call) api.Errno {
	t.Helper()
	b.did += fmt.Sprintf(" %s %.30q;", x.name, x.recs)
	next, ops, want := b.p.behind(x)
	if why := b.byHand(ops); why != api.OK {
		next, want = b.p, why
		next.isLost = true
	}
	if e := x.on(b.l); e != want {
		t.Fatalf("the last of%.2000s answers %d, want %d", b.did, int(e), int(want))
	}
	b.p = next
	b.isTold(t)
	return want
}

func (b *both) isTold(t *testing.T) {
	t.Helper()
	if got := b.l.Records(); !slices.Equal(got, b.p.records) {
		t.Fatalf("behind%.2000s: Records %.1000q, want %.1000q", b.did, got, b.p.records)
	}
	if w, u, r := b.l.Waiting(), b.l.Used(), b.l.Room(); w != len(b.p.waiting) || u != b.p.used() || r != b.p.room() {
		t.Fatalf("behind%.2000s: Waiting %d, Used %d, Room %d, want %d, %d, %d", b.did, w, u, r, len(b.p.waiting), b.p.used(), b.p.room())
	}
	isSameDisk(t, b.d, b.other, "behind"+b.did)
}

func (b *both) fuse(n int) {
	b.did += fmt.Sprintf(" Fuse %d;", n)
	b.d.Fuse(n)
	b.other.Fuse(n)
}

func (b *both) crash(keep ...int) {
	b.did += fmt.Sprintf(" Crash %v;", keep)
	b.d.Crash(keep)
	b.other.Crash(keep)
}

// isLog opens a disk, and fails where its records are not these, or where anything is written.
func isLog(t *testing.T, d *disk.Disk, records ...string) *Log {
	t.Helper()
	c := d.Copy()
	l, e := Open(d)
	if e != api.OK || l == nil {
		t.Fatalf("Open of %.1000q = %v, %d", texts(d), l, int(e))
	}
	if got, want := l.Records(), len(frameBytes(records...)); !slices.Equal(got, records) || l.Waiting() != 0 || l.Used() != want || l.Room() != (d.Blocks()-2)/2*64-want {
		t.Fatalf("of %.1000q: Records %.500q, Waiting %d, Used %d, Room %d, want %.500q", texts(d), got, l.Waiting(), l.Used(), l.Room(), records)
	}
	isSameDisk(t, d, c, "Open")
	return l
}

// isRefused fails where a disk is not refused by that error, or where anything is written.
func isRefused(t *testing.T, d *disk.Disk, want api.Errno) {
	t.Helper()
	c := d.Copy()
	for range 2 {
		if l, e := Open(d); l != nil || e != want {
			t.Fatalf("Open of %.1000q = %v, %d, want %d", texts(d), l, int(e), int(want))
		}
	}
	if c != nil {
		isSameDisk(t, d, c, "Open")
	}
}

// P10.1: Open

func TestOpenOfNoDisk(t *testing.T) {
	refused, _ := disk.New(0)
	for _, d := range []*disk.Disk{nil, {}, new(disk.Disk), refused} {
		isRefused(t, d, api.ErrNil)
	}
}

func TestOpenOfADiskThatIsDown(t *testing.T) {
	for n := 1; n <= 9; n++ { // also of too few blocks: that is named behind it
		d := newDisk(t, n)
		d.Fuse(0)
		d.Flush()
		isRefused(t, d, api.ErrDown)
		d.Crash(nil)
		if _, e := Open(d); (e == api.OK) != (n >= 6) {
			t.Errorf("of %d blocks, up again: %d", n, int(e))
		}
	}
	b := run(t, 8, add("x"), sync())
	b.fuse(0)
	b.d.Flush()
	isRefused(t, b.d, api.ErrDown)
}

func TestOpenOfTooFewBlocks(t *testing.T) {
	for n := 1; n <= 5; n++ {
		isRefused(t, newDisk(t, n), api.ErrArg)
	}
	for n := 2; n <= 5; n++ {
		isRefused(t, diskOf(t, n, "", headBytes(1, 0, 0)), api.ErrArg)
		isRefused(t, diskOf(t, n, "bad", "bad"), api.ErrArg)
	}
}

func TestOpenOfNoughts(t *testing.T) {
	for _, x := range []struct{ blocks, room int }{{6, 128}, {7, 128}, {8, 192}, {9, 192}, {10, 256}, {65, 1984}, {4095, 130944}, {4096, 131008}} {
		d := newDisk(t, x.blocks)
		l, e := Open(d)
		if e != api.OK || len(l.Records()) != 0 || l.Waiting() != 0 || l.Used() != 0 || l.Room() != x.room {
			t.Fatalf("of %d blocks: %d, %q, %d, %d, %d", x.blocks, int(e), l.Records(), l.Waiting(), l.Used(), l.Room())
		}
		want := slices.Repeat([]string{filled("", 64)}, x.blocks)
		want[1] = headBytes(1, 0, 0)
		if !slices.Equal(texts(d), want) || d.Done() != 2 || len(d.Waiting()) != 0 {
			t.Fatalf("of %d blocks: %.1000q, Done %d, Waiting %v", x.blocks, texts(d), d.Done(), d.Waiting())
		}
		isLog(t, d)
	}
}

// The first head's bytes are written out here, with a sum that was worked out elsewhere.
func TestTheFirstHead(t *testing.T) {
	d := newDisk(t, 6)
	Open(d)
	want := "VH\x00\x00" + "\x00\x00\x00\x00\x00\x00\x00\x01" + "\x00\x00\x00\x00" + filled("", 44) + "\x73\x39\xcb\x5a"
	if got := texts(d)[1]; got != want {
		t.Errorf("%q, want %q", got, want)
	}
}

func TestOpenOfNoughtsLooksAtNoArea(t *testing.T) {
	text := frameBytes("old", "older") + "rest"
	d := diskOf(t, 9, "", "", text, text)
	want := texts(d)
	want[1] = headBytes(1, 0, 0)
	if l, e := Open(d); e != api.OK || len(l.Records()) != 0 || l.Room() != 192 || !slices.Equal(texts(d), want) {
		t.Errorf("%d, %q", int(e), texts(d))
	}
}

func TestOpenOfNoughtsWithAFuse(t *testing.T) {
	for fuse, want := range []struct {
		e       api.Errno
		done    int
		waiting []api.Wait
	}{{api.ErrDown, 0, nil}, {api.ErrDown, 1, []api.Wait{{Block: 1, N: 1}}}, {api.OK, 2, nil}} {
		for keep := range 2 {
			d := newDisk(t, 6)
			d.Fuse(fuse)
			l, e := Open(d)
			if e != want.e || (l == nil) != (e != api.OK) || d.Done() != want.done || !slices.Equal(d.Waiting(), want.waiting) {
				t.Fatalf("a fuse of %d: %v, %d, Done %d, Waiting %v", fuse, l, int(e), d.Done(), d.Waiting())
			}
			d.Crash([]int{keep})
			again := opened(t, d)
			isLog(t, again.d)
			again.do(t, add("x"))
			again.do(t, sync())
			isLog(t, again.d, "x")
		}
	}
}

func TestOpenTellsTheGreaterHead(t *testing.T) {
	first, second := frameBytes("a", "b"), frameBytes("other")
	for _, x := range []struct {
		even, odd uint64
		isEven    bool
	}{{2, 1, true}, {2, 3, false}, {4, 3, true}, {2, 99, false}, {100, 1, true}, {256, 255, true}, {256, 257, false}, {1 << 32, 1<<32 - 1, true}, {1 << 32, 1<<32 + 1, false}, {1 << 60, 1<<60 - 1, true}, {1<<60 - 2, 1<<60 - 1, false}, {1 << 60, 1, true}} {
		for even := range byte(2) { // the area of the even head; the odd one has the other area
			ofArea := []string{first, second}
			recs := [][]string{{"a", "b"}, {"other"}}
			d := diskOf(t, 8, headBytes(x.even, even, len(ofArea[even])), headBytes(x.odd, 1-even, len(ofArea[1-even])), first, second)
			tells := even
			if !x.isEven {
				tells = 1 - even
			}
			isLog(t, d, recs[tells]...)
		}
	}
}

// Both heads tell of one area: the greater one's length counts, be it the shorter one or not.
func TestOpenTellsTheGreaterHeadsLength(t *testing.T) {
	text := frameBytes("a", "b")
	isLog(t, diskOf(t, 6, headBytes(2, 0, 18), headBytes(1, 0, 9), text), "a", "b")
	isLog(t, diskOf(t, 6, headBytes(2, 0, 18), headBytes(3, 0, 9), text), "a")
	isLog(t, diskOf(t, 6, headBytes(2, 0, 18), headBytes(3, 0, 0), text))
}

func TestOpenOfOneHead(t *testing.T) {
	text := frameBytes("a", "", "b")
	for _, bad := range []string{"", "bad", filled("", 63) + "\x01", headBytes(9, 0, 26)[:63], headBytes(0, 0, 26), headBytes(1<<60+1, 0, 26), headBytes(1<<60+2, 0, 26)} {
		isLog(t, diskOf(t, 6, headBytes(2, 0, 26), bad, text), "a", "", "b")
		isLog(t, diskOf(t, 6, bad, headBytes(1, 0, 26), text), "a", "", "b")
		isLog(t, diskOf(t, 6, bad, headBytes(7, 1, 26), "bad", text), "a", "", "b")
	}
}

func TestOpenOfNoHead(t *testing.T) {
	text := frameBytes("a")
	for i := range 128 { // noughts alone, but for one byte
		b := []byte(filled("", 128))
		b[i] = 1
		isRefused(t, diskOf(t, 6, string(b[:64]), string(b[64:]), text), api.ErrSum)
	}
	for _, bad := range []string{"bad", "VH", headBytes(1, 0, 0)[:63], long(255, 64)} {
		isRefused(t, diskOf(t, 6, "", bad, text), api.ErrSum)
		isRefused(t, diskOf(t, 6, bad, "", text), api.ErrSum)
		isRefused(t, diskOf(t, 6, bad, bad, text), api.ErrSum)
	}
	isRefused(t, diskOf(t, 6, headBytes(1, 0, 0), headBytes(2, 0, 0)), api.ErrSum) // each in the other's block
}

// isNoHead fails where a block, which would be a head of this place, is taken for one: alone, and beside a head that there is.
func isNoHead(t *testing.T, place int, b string) {
	t.Helper()
	text := frameBytes("good")
	blocks := []string{headBytes(2, 0, 12), headBytes(1, 0, 12)} // the other block has another number than b, a lesser one
	blocks[place] = b
	isLog(t, diskOf(t, 7, blocks[0], blocks[1], text, frameBytes("bad")), "good")
	blocks[1-place] = ""
	isRefused(t, diskOf(t, 7, blocks[0], blocks[1], text, frameBytes("bad")), api.ErrSum)
	blocks[1-place] = "bad"
	isRefused(t, diskOf(t, 7, blocks[0], blocks[1], text, frameBytes("bad")), api.ErrSum)
}

func TestAHeadWithAByteChanged(t *testing.T) {
	for place, number := range []uint64{6, 5} {
		whole := headBytes(number, 1, 11)
		for i := range 64 {
			for other := 1; other < 256; other++ {
				b := []byte(whole)
				b[i] ^= byte(other)
				isNoHead(t, place, string(b))
			}
		}
	}
}

// Their sums are right, but for the last ones.
func TestHeadsThatAreNone(t *testing.T) {
	const m = 2                              // of 7 blocks
	for place, s := range []uint64{62, 61} { // with the lowest byte first they would be above 2^60
		whole := headBytes(s, 1, 11)
		all := []string{headBytes(s+1, 1, 11), headBytes(s-1, 1, 11)} // in the wrong block
		for _, n := range []uint64{0, 1<<60 + 1, 1<<60 + 2, 1<<60 + 3, 1<<60 + 4, 1 << 61, 1<<62 + 1, 1 << 63, 1<<63 + 1, math.MaxUint64 - 1, math.MaxUint64} {
			all = append(all, headBytes(n, 1, 11))
		}
		for _, k := range []int{64*m + 1, 64*m + 2, 64*m + 64, 64 * 7, 65536, 1 << 24, math.MaxInt32, 1 << 31, math.MaxUint32} {
			all = append(all, headBytes(s, 1, k))
		}
		for a := 2; a < 256; a++ {
			all = append(all, headBytes(s, byte(a), 11))
		}
		for i := range 60 { // what is not a number or an area
			if i != 2 && (i < 4 || i >= 16) {
				for _, other := range []byte{1, 32, 255} {
					b := []byte(whole[:60])
					b[i] ^= other
					all = append(all, summed(string(b)))
				}
			}
		}
		sum := crc32.ChecksumIEEE([]byte(whole[:60]))
		all = append(all,
			string(binary.BigEndian.AppendUint32([]byte(whole[:60]), sum)),
			string(binary.LittleEndian.AppendUint32([]byte(whole[:60]), ^sum)),
			string(binary.LittleEndian.AppendUint32([]byte(whole[:60]), crc32.ChecksumIEEE([]byte(whole[:16])))),
			string(binary.LittleEndian.AppendUint32([]byte(whole[:60]), crc32.ChecksumIEEE([]byte(filled(whole[:60], 64))))),
			filled(whole[:60], 64))
		little := binary.LittleEndian.AppendUint64([]byte("VH\x01\x00"), s)
		all = append(all, summed(string(little)+"\x00\x00\x00\x0b"), summed(whole[:12]+"\x0b\x00\x00\x00"))
		for _, b := range all {
			isNoHead(t, place, b)
		}
	}
}

func TestHeadsAtTheirEdges(t *testing.T) {
	text := frameBytes("edge")
	for _, s := range []uint64{1, 2, 3, 255, 256, 1 << 32, 1<<59 + 1, 1<<60 - 1, 1 << 60} {
		for a := range byte(2) {
			blocks, areas := []string{"", ""}, []string{"bad", "bad"}
			blocks[s%2], areas[a] = headBytes(s, a, 12), text
			isLog(t, diskOf(t, 8, blocks[0], blocks[1], areas...), "edge")
		}
	}
}

func TestLengthsAtTheirEdges(t *testing.T) {
	for _, n := range []int{6, 7, 8, 100, 4096} {
		size := (n - 2) / 2 * 64
		var recs []string
		for left := size; left > 0; {
			rec := long('r', min(left, 2000)-8)
			recs = append(recs, rec)
			left -= len(rec) + 8
		}
		text := frameBytes(recs...)
		if len(text) != size {
			t.Fatal(len(text), size)
		}
		for a := range byte(2) {
			d := diskOf(t, n, "", headBytes(1, a, size), text, text)
			if l := isLog(t, d, recs...); l.Room() != 0 || l.Add("") != api.ErrFull {
				t.Errorf("of %d blocks: Room %d", n, l.Room())
			}
			isRefused(t, diskOf(t, n, "", headBytes(1, a, size+1), text, text), api.ErrSum)
			isLog(t, diskOf(t, n, "", headBytes(1, a, 0), text, text))
		}
	}
}

// Of 7 blocks the last one is in no area.
func TestWhereTheAreasAre(t *testing.T) {
	for _, x := range []struct{ n, second int }{{6, 4}, {7, 4}, {8, 5}, {9, 5}, {4095, 2048}, {4096, 2049}} {
		b := run(t, x.n, reset("two"))
		if got := texts(b.d)[x.second]; got != filled(frameBytes("two"), 64) {
			t.Errorf("of %d blocks: %q", x.n, got)
		}
		b.do(t, reset("one"))
		if got := texts(b.d)[2]; got != filled(frameBytes("one"), 64) {
			t.Errorf("of %d blocks: %q", x.n, got)
		}
	}
}

func TestAreasThatAreNotFrames(t *testing.T) {
	text := frameBytes("abc", "", long('d', 70))
	for k := 1; k <= 128; k++ {
		if k == 11 || k == 19 || k == 97 { // the ends of the three
			isLog(t, diskOf(t, 6, "", headBytes(1, 0, k), text), []string{"abc", "", long('d', 70)}[:map[int]int{11: 1, 19: 2, 97: 3}[k]]...)
			continue
		}
		isRefused(t, diskOf(t, 6, "", headBytes(1, 0, k), text), api.ErrSum)
		isRefused(t, diskOf(t, 6, headBytes(2, 1, k), "", "", text), api.ErrSum)
	}
	for i := range text { // one byte is another one
		b := []byte(text)
		b[i] ^= 1
		isRefused(t, diskOf(t, 6, "", headBytes(1, 0, len(text)), string(b)), api.ErrSum)
	}
	isRefused(t, diskOf(t, 200, "", headBytes(1, 0, 4105), frameBytes(long('x', 4097))), api.ErrSum) // longer than any record
	isLog(t, diskOf(t, 200, "", headBytes(1, 0, 4104), frameBytes(long('x', 4096))), long('x', 4096))
}

// Where the greater head's area is not just frames, the lesser head is not asked.
func TestOnlyTheGreaterHeadIsAsked(t *testing.T) {
	good := frameBytes("good")
	isRefused(t, diskOf(t, 6, headBytes(2, 1, 12), headBytes(1, 0, 12), good, "bad"), api.ErrSum)
	isRefused(t, diskOf(t, 6, headBytes(2, 0, 12), headBytes(3, 0, 13), good), api.ErrSum)
	isLog(t, diskOf(t, 6, headBytes(2, 1, 12), headBytes(1, 0, 12), "bad", good), "good")
}

func TestWhatIsBehindTheLengthIsNotRead(t *testing.T) {
	for _, rest := range []string{"", "x", long(255, 116), frameBytes("more"), frameBytes("more")[:11], frameBytes("more", "and more")} {
		isLog(t, diskOf(t, 6, "", headBytes(1, 0, 12), frameBytes("good")+rest, long(255, 128)), "good")
		isLog(t, diskOf(t, 6, "", headBytes(1, 0, 0), rest))
	}
}

func TestOpenWritesNothingWhereThereIsALog(t *testing.T) {
	b := run(t, 8, add("x"), sync(), reset("a", "b"), add("c"), sync())
	b.d.Fuse(0)
	for range 3 {
		isLog(t, b.d, "a", "b", "c")
	}
	if e := b.d.Flush(); e != api.ErrDown { // the fuse was not touched
		t.Errorf("Flush = %d", int(e))
	}
}

// P10.2: Add, Waiting

func TestAddWaits(t *testing.T) {
	b := run(t, 8)
	for k, rec := range []string{"x", "", "x", "\x00\xff", "x"} {
		b.do(t, add(rec))
		if b.l.Waiting() != k+1 || len(b.l.Records()) != 0 || b.l.Used() != 0 || b.d.Done() != 2 {
			t.Fatalf("behind %d: %d wait, %q, %d, %d", k+1, b.l.Waiting(), b.l.Records(), b.l.Used(), b.d.Done())
		}
	}
	if got := b.l.Room(); got != 192-9-8-9-10-9 {
		t.Errorf("Room %d", got)
	}
	isLog(t, b.d) // none of them is on the disk
	b.do(t, sync())
	if b.l.Waiting() != 0 || !slices.Equal(b.l.Records(), []string{"x", "", "x", "\x00\xff", "x"}) {
		t.Errorf("%d, %q", b.l.Waiting(), b.l.Records())
	}
}

func TestAddOfEachLength(t *testing.T) {
	for _, n := range []int{0, 1, 2, 55, 56, 57, 119, 120, 121, 1000, 4095, 4096} {
		b := run(t, 4096, add(long('x', n)))
		if b.l.Waiting() != 1 || b.l.Room() != 131008-n-8 {
			t.Errorf("of %d bytes: %d, %d", n, b.l.Waiting(), b.l.Room())
		}
		b.do(t, sync())
		isLog(t, b.d, long('x', n))
	}
}

func TestAddOfTooLong(t *testing.T) {
	for _, n := range []int{6, 200, 4096} { // where there is room for it, and where there is none: that is named behind it
		b := run(t, n, add("a"), sync(), add("b"))
		for _, size := range []int{4097, 4098, 8192, 65536, 1 << 20} {
			if e := b.do(t, add(long('x', size))); e != api.ErrBig {
				t.Errorf("of %d bytes: %d", size, int(e))
			}
		}
	}
}

func TestAddThatFitsJust(t *testing.T) {
	for _, ahead := range [][]call{nil, {add("a")}, {add("a"), sync()}, {add("a"), sync(), add("bc"), add("")}, {reset("q"), add("b")}} {
		for more := range 3 {
			b := run(t, 8, ahead...)
			size := b.l.Room() - 8 + more
			want := api.ErrFull
			if more == 0 {
				want = api.OK
			}
			if e := b.do(t, add(long('x', size))); e != want {
				t.Errorf("%d bytes more than fit: %d", more, int(e))
			}
			if more > 0 {
				b.do(t, add(long('x', size-more))) // nothing was taken by the one that was refused
			}
			if b.l.Room() != 0 {
				t.Errorf("Room %d", b.l.Room())
			}
			if e := b.do(t, add("")); e != api.ErrFull {
				t.Errorf("Add to a full log = %d", int(e))
			}
			b.do(t, sync())
			isLog(t, b.d, b.p.records...)
		}
	}
	b := run(t, 6, add(long('x', 113))) // 121 of 128: 7 are left, one fewer than any frame has
	if e := b.do(t, add("")); e != api.ErrFull || b.l.Room() != 7 {
		t.Errorf("%d, Room %d", int(e), b.l.Room())
	}
}

// P10.3: Sync

func TestSyncByHand(t *testing.T) {
	d := newDisk(t, 8)
	l, _ := Open(d)
	l.Add("x")
	if e := l.Sync(); e != api.OK || d.Done() != 6 || l.Used() != 9 || l.Room() != 183 {
		t.Fatalf("%d, Done %d, Used %d, Room %d", int(e), d.Done(), l.Used(), l.Room())
	}
	want := slices.Repeat([]string{filled("", 64)}, 8)
	want[0], want[1], want[2] = headBytes(2, 0, 9), headBytes(1, 0, 0), filled(frameBytes("x"), 64)
	if got := texts(d); !slices.Equal(got, want) {
		t.Fatalf("%q, want %q", got, want)
	}
	if got := texts(d)[0][:16]; got != "VH\x00\x00\x00\x00\x00\x00\x00\x00\x00\x02\x00\x00\x00\x09" {
		t.Errorf("the head of 2 is %q", got)
	}
	l.Add(long('y', 60)) // 9 + 68 bytes: it goes on in the next block
	if e := l.Sync(); e != api.OK || d.Done() != 11 {
		t.Fatalf("%d, Done %d", int(e), d.Done())
	}
	all := frameBytes("x", long('y', 60))
	want[1], want[2], want[3] = headBytes(3, 0, 77), all[:64], filled(all[64:], 64)
	if got := texts(d); !slices.Equal(got, want) {
		t.Fatalf("%q, want %q", got, want)
	}
	l.Add(long('z', 64*3-77-8)) // up to the area's end; the first block is full, and not written again
	if e := l.Sync(); e != api.OK || d.Done() != 16 || l.Room() != 0 {
		t.Fatalf("%d, Done %d", int(e), d.Done())
	}
	all = frameBytes("x", long('y', 60), long('z', 107))
	want[0], want[3], want[4] = headBytes(4, 0, 192), all[64:128], all[128:]
	if got := texts(d); !slices.Equal(got, want) {
		t.Fatalf("%q, want %q", got, want)
	}
}

func TestSyncOfNone(t *testing.T) {
	b := run(t, 8)
	isDone := func(want int) {
		t.Helper()
		for range 3 {
			if e := b.do(t, sync()); e != api.OK || b.d.Done() != want {
				t.Fatalf("%d, Done %d", int(e), b.d.Done())
			}
		}
	}
	isDone(2)
	b.do(t, add("x"))
	b.do(t, sync())
	isDone(6)
	b.do(t, reset())
	isDone(9)
	b.fuse(0)
	isDone(9)
	b.d.Flush()
	b.other.Flush()
	isDone(9) // the disk is down, but nothing is asked of it
	b.crash()
	isDone(9)
	b.do(t, add("y"))
	if e := b.do(t, sync()); e != api.OK {
		t.Errorf("behind a loss of power that no call met: %d", int(e))
	}
	isLog(t, b.d, "y")
}

// pasts are calls that leave logs of all kinds: with lengths in the middle of a block, at its end, in either area, with old bytes behind the length.
func pasts() [][]call {
	return [][]call{
		nil,
		{add("x"), sync()},
		{add(long('x', 55)), sync()},
		{add(long('x', 56)), sync()},
		{add(long('x', 57)), sync()},
		{add(long('x', 30)), add(long('y', 18)), sync()},
		{add(long('x', 120)), sync()},
		{add(long('x', 100)), sync(), add("y"), sync()},
		{reset()},
		{reset("a", "b")},
		{reset(long('a', 56))},
		{reset(long('a', 180)), reset("b"), reset("c")},
		{add(long('x', 180)), sync(), reset(), reset("b")},
		{add(long('x', 180)), sync(), reset(long('z', 184)), reset()},
	}
}

// ends are calls of which the last one goes to the disk, whatever the past; on a disk of 8 blocks some of them are refused.
func ends() [][]call {
	out := [][]call{{reset()}, {reset("")}, {reset("a", "bb", "ccc")}, {reset(long('a', 184))}, {reset(long('a', 185))}, {reset(long('a', 56), long('b', 56), long('c', 56))}, {reset(slices.Repeat([]string{""}, 24)...)}, {reset(slices.Repeat([]string{""}, 25)...)}, {reset("", long('a', 4097))}}
	for _, sizes := range [][]int{{0}, {1}, {46}, {47}, {48}, {55}, {56}, {57}, {110}, {111}, {119}, {120}, {0, 0}, {1, 2, 3}, {56, 56}, {20, 30, 40}, {47, 56}, {0, 0, 0, 0, 0, 0, 0}} {
		var calls []call
		for i, n := range sizes {
			calls = append(calls, add(long(byte('p'+i), n)))
		}
		out = append(out, append(calls, sync()))
	}
	return out
}

// Of each Write and Flush of Sync and Reset: what was done ahead of it, when it fails, and what is told from then on.
func TestEachStepOfSyncAndReset(t *testing.T) {
	for _, past := range pasts() {
		for _, end := range ends() {
			for fuse := 0; ; fuse++ {
				b := run(t, 8, past...)
				for _, x := range end[:len(end)-1] {
					b.do(t, x)
				}
				b.fuse(fuse)
				if e := b.do(t, end[len(end)-1]); e != api.ErrDown {
					if !b.d.Up() || b.p.isLost {
						t.Fatal("it is down, or lost, and was not told")
					}
					break
				}
				isLost(t, b)
			}
		}
	}
}

// isLost fails where a lost log takes anything in, tells anything else than it did, or has a hand on the disk; also when the disk is up again.
func isLost(t *testing.T, b *both) {
	t.Helper()
	for range 2 {
		for _, x := range []call{add("n"), add(""), add(long('n', 4097)), add(long('n', 4000)), sync(), reset(), reset("n"), reset(long('n', 4097)), reset(long('n', 4000))} {
			if e := b.do(t, x); e != api.ErrDown {
				t.Fatalf("behind%s: %d of a lost log", b.did, int(e))
			}
		}
		b.crash()
	}
}

func TestWhatALostLogTells(t *testing.T) {
	b := run(t, 8, add("x"), sync(), add("yy"), add("z"))
	b.fuse(1)
	if e := b.do(t, sync()); e != api.ErrDown || b.l.Waiting() != 2 || b.l.Used() != 9 || b.l.Room() != 192-9-10-9 || !slices.Equal(b.l.Records(), []string{"x"}) {
		t.Errorf("%d: Waiting %d, Used %d, Room %d, Records %q", int(e), b.l.Waiting(), b.l.Used(), b.l.Room(), b.l.Records())
	}
	b = run(t, 8, add("x"), sync())
	b.fuse(3)
	if e := b.do(t, reset("a", "b")); e != api.ErrDown || b.l.Waiting() != 0 || b.l.Used() != 9 || b.l.Room() != 192-9 || !slices.Equal(b.l.Records(), []string{"x"}) {
		t.Errorf("%d: Waiting %d, Used %d, Room %d, Records %q", int(e), b.l.Waiting(), b.l.Used(), b.l.Room(), b.l.Records())
	}
	if e := b.do(t, sync()); e != api.ErrDown { // though none waits
		t.Errorf("Sync of a lost log = %d", int(e))
	}
}

// The disk went down by another hand: the log is lost when it finds that out, not ahead of it.
func TestADiskThatIsDown(t *testing.T) {
	for _, past := range pasts() {
		for _, end := range []call{sync(), reset("a"), reset()} {
			b := run(t, 8, past...)
			b.fuse(0)
			b.d.Flush()
			b.other.Flush()
			if end.name == "Sync" {
				b.do(t, add("n"))
				if e := b.do(t, reset()); e != api.ErrState {
					t.Fatalf("Reset while records wait = %d", int(e))
				}
			} else if e := b.do(t, reset(long('x', 185))); e != api.ErrFull {
				t.Fatalf("Reset of too many = %d", int(e))
			}
			if e := b.do(t, end); e != api.ErrDown {
				t.Fatalf("%s = %d", end.name, int(e))
			}
			isLost(t, b)
		}
	}
}

// P10.4: Reset

func TestResetByHand(t *testing.T) {
	d := newDisk(t, 7) // areas of two blocks: 2 and 3, 4 and 5
	l, _ := Open(d)
	l.Add(long('x', 100))
	l.Sync() // 2 blocks, 2 flushes, a head
	if e := l.Reset([]string{"a", "", long('b', 60)}); e != api.OK || d.Done() != 12 || l.Used() != 85 || l.Room() != 43 {
		t.Fatalf("%d, Done %d, Used %d, Room %d", int(e), d.Done(), l.Used(), l.Room())
	}
	old, all := frameBytes(long('x', 100)), frameBytes("a", "", long('b', 60))
	want := []string{headBytes(2, 0, 108), headBytes(3, 1, 85), old[:64], filled(old[64:], 64), all[:64], filled(all[64:], 64), filled("", 64)}
	if got := texts(d); !slices.Equal(got, want) {
		t.Fatalf("%q, want %q", got, want)
	}
	if e := l.Reset([]string{"c"}); e != api.OK || d.Done() != 16 { // the other block of the area stays as it was
		t.Fatalf("%d, Done %d", int(e), d.Done())
	}
	want[0], want[2] = headBytes(4, 0, 9), filled(frameBytes("c"), 64)
	if got := texts(d); !slices.Equal(got, want) {
		t.Fatalf("%q, want %q", got, want)
	}
	if e := l.Reset(nil); e != api.OK || d.Done() != 19 || len(l.Records()) != 0 || l.Used() != 0 || l.Room() != 128 { // a flush, a head, a flush
		t.Fatalf("%d, Done %d", int(e), d.Done())
	}
	want[1] = headBytes(5, 1, 0)
	if got := texts(d); !slices.Equal(got, want) {
		t.Fatalf("%q, want %q", got, want)
	}
	l.Add("d")
	l.Sync()
	want[0], want[4] = headBytes(6, 1, 9), filled(frameBytes("d"), 64) // nothing of what was there stays behind it
	if got := texts(d); !slices.Equal(got, want) {
		t.Fatalf("%q, want %q", got, want)
	}
}

func TestResetBehindReset(t *testing.T) {
	b := run(t, 6)
	for k := range 40 {
		recs := slices.Repeat([]string{long(byte('a'+k%26), k*7%30)}, k%3)
		b.do(t, reset(recs...))
		if k%4 == 1 {
			b.do(t, add("more"))
			b.do(t, sync())
			recs = append(recs, "more")
		}
		isLog(t, b.d, recs...)
	}
}

func TestResetIsRefused(t *testing.T) {
	tooLong, tooMany := []string{"a", long('x', 4097)}, slices.Repeat([]string{""}, 25)
	for _, past := range pasts() {
		b := run(t, 8, past...)
		for _, x := range []struct {
			recs []string
			want api.Errno
		}{
			{tooLong, api.ErrBig},
			{append(slices.Clone(tooMany), tooLong...), api.ErrBig}, // that they are too many is named behind it
			{append(slices.Clone(tooLong), tooMany...), api.ErrBig},
			{[]string{long('x', 4096)}, api.ErrFull},
			{[]string{long('x', 185)}, api.ErrFull},
			{[]string{long('x', 185), ""}, api.ErrFull},
			{[]string{"", long('x', 177)}, api.ErrFull},
			{[]string{long('x', 100), long('y', 100), "", ""}, api.ErrFull},
			{tooMany, api.ErrFull},
		} {
			if e := b.do(t, reset(x.recs...)); e != x.want {
				t.Errorf("behind%s: %d, want %d", b.did, int(e), int(x.want))
			}
		}
		if e := b.do(t, add("")); e != api.OK {
			continue // there is no room for one
		}
		for _, recs := range [][]string{nil, {"a"}, tooLong, tooMany} { // that records wait is named ahead of all these
			if e := b.do(t, reset(recs...)); e != api.ErrState {
				t.Errorf("behind%s: %d", b.did, int(e))
			}
		}
		b.do(t, sync())
		if e := b.do(t, reset("a")); e != api.OK {
			t.Errorf("behind%s: %d", b.did, int(e))
		}
	}
}

func TestResetThatFitsJust(t *testing.T) {
	for _, n := range []int{6, 7, 8, 50, 4096} {
		size := (n - 2) / 2 * 64
		b := run(t, n)
		for range 2 { // of both areas
			recs := slices.Repeat([]string{long('x', 56)}, size/64)
			if e := b.do(t, reset(recs...)); e != api.OK || b.l.Room() != 0 || b.l.Used() != size {
				t.Fatalf("of %d blocks: %d, Room %d", n, int(e), b.l.Room())
			}
			recs[len(recs)/2] += "x"
			if e := b.do(t, reset(recs...)); e != api.ErrFull {
				t.Fatalf("of %d blocks: %d", n, int(e))
			}
		}
	}
	b := run(t, 200)
	b.do(t, reset(long('x', 4096), "a"))
	isLog(t, b.d, long('x', 4096), "a")
}

// P10.5: Records, Used, Room (beside what every other test holds against the paper)

func TestWhatIsToldByHand(t *testing.T) {
	d := newDisk(t, 8)
	l, _ := Open(d)
	isTold := func(waiting, used, room int, records ...string) {
		t.Helper()
		if l.Waiting() != waiting || l.Used() != used || l.Room() != room || !slices.Equal(l.Records(), records) {
			t.Fatalf("%d, %d, %d, %q, want %d, %d, %d, %q", l.Waiting(), l.Used(), l.Room(), l.Records(), waiting, used, room, records)
		}
	}
	isTold(0, 0, 192)
	l.Add("abc")
	isTold(1, 0, 181)
	l.Add("")
	isTold(2, 0, 173)
	l.Sync()
	isTold(0, 19, 173, "abc", "")
	l.Add("d")
	isTold(1, 19, 164, "abc", "")
	l.Add(long('x', 157)) // refused
	isTold(1, 19, 164, "abc", "")
	l.Sync()
	isTold(0, 28, 164, "abc", "", "d")
	l.Reset([]string{"e"})
	isTold(0, 9, 183, "e")
	l.Reset(nil)
	isTold(0, 0, 192)
}

// The rule of objects that no call made

func TestNoLog(t *testing.T) {
	refused, _ := Open(nil)
	for name, l := range map[string]*Log{"nil": nil, "plain": {}, "new": new(Log), "of Open": refused} {
		for range 2 { // the first round has changed nothing
			errs := []api.Errno{l.Add(""), l.Add("x"), l.Add(long('x', 4097)), l.Sync(), l.Reset(nil), l.Reset([]string{"x"}), l.Reset([]string{long('x', 4097)})}
			for k, e := range errs {
				if e != api.ErrNil {
					t.Errorf("%s: call %d answers %d", name, k, int(e))
				}
			}
			if len(l.Records()) != 0 || l.Waiting() != 0 || l.Used() != 0 || l.Room() != 0 {
				t.Errorf("%s: %q, %d, %d, %d", name, l.Records(), l.Waiting(), l.Used(), l.Room())
			}
		}
	}
}

// All calls together

func TestAllRowsOfCalls(t *testing.T) {
	set := []call{add("a"), add(long('b', 47)), add(long('c', 110)), sync(), reset(), reset("d", "e"), reset(long('f', 120))}
	var rows func(ahead []call, left int)
	rows = func(ahead []call, left int) {
		for _, x := range set {
			row := append(slices.Clone(ahead), x)
			if left > 1 {
				rows(row, left-1)
				continue
			}
			b := run(t, 6, row...) // what it tells is held against the paper behind each call
			if e := b.open(t); e != api.OK {
				t.Fatalf("behind%s: %d", b.did, int(e))
			}
			b.do(t, add("z"))
			b.do(t, sync())
		}
	}
	rows(nil, 5)
}

// Calls, fuses, losses of power and openings, in any order.
func TestRowsByChance(t *testing.T) {
	chance := rand.New(rand.NewSource(10))
	for round := range 320 {
		n := []int{6, 7, 8, 12, 40, 150, 300, 4096}[round%8]
		steps := 60
		if n == 4096 {
			steps = 15
		}
		b := opened(t, newDisk(t, n))
		for range steps {
			b.chance(t, chance)
			b.did = ""
		}
	}
}

// chance does one thing, whichever it is.
func (b *both) chance(t *testing.T, chance *rand.Rand) {
	t.Helper()
	rec := func() string {
		most := []int{4, 60, 60, 200, 1000, 4096}[chance.Intn(6)]
		out := make([]byte, chance.Intn(min(most, 40*b.p.m)+1))
		chance.Read(out)
		return string(out)
	}
	switch k := chance.Intn(20); {
	case k < 8:
		b.do(t, add(rec()))
	case k < 13:
		b.do(t, sync())
	case k < 16:
		var recs []string
		for range chance.Intn(4) {
			recs = append(recs, rec())
		}
		b.do(t, reset(recs...))
	case k < 17:
		b.fuse(chance.Intn(9))
	case k < 18 && b.d.Up():
		b.open(t)
	default:
		if b.d.Up() {
			return
		}
		b.crashAndOpen(t, chance)
	}
}

// crashAndOpen keeps any of the writes that wait.
func (b *both) crashAndOpen(t *testing.T, chance *rand.Rand) {
	t.Helper()
	var keep []int
	for range b.d.Waiting() {
		keep = append(keep, chance.Intn(3))
	}
	b.crash(keep...)
	if chance.Intn(3) == 0 {
		isLost(t, b)
	}
	if e := b.open(t); e != api.OK {
		t.Fatalf("behind%s: Open = %d", b.did, int(e))
	}
}

// P10.6

// choices are all ways to keep some of the writes that wait.
func choices(waiting []api.Wait) [][]int {
	out := [][]int{nil}
	for _, w := range waiting {
		var longer [][]int
		for _, keep := range out {
			for m := range w.N + 1 {
				longer = append(longer, append(slices.Clone(keep), m))
			}
		}
		out = longer
	}
	return out
}

// explorer looks at all disks that a row of Syncs and Resets can leave, wherever power is lost.
type explorer struct {
	seen   map[string]bool
	losses int
}

// ofDepth are what may be done with so many rows still to come; its bytes are those of no other depth.
func ofDepth(depth int) [][]call {
	c := byte('a' + depth)
	return [][]call{
		{add(long(c, 1)), sync()},
		{add(long(c, 50)), sync()},
		{add(long(c, 56)), add(long(c, 2)), sync()},
		{add(long(c, 100)), sync()},
		{reset()},
		{reset(long(c, 3), long(c, 4))},
		{reset(long(c, 60))},
		{reset(long(c, 56), long(c, 56))},
	}
}

// from goes on from a disk whose log has these records.
func (x *explorer) from(t *testing.T, d *disk.Disk, old []string, depth int) {
	t.Helper()
	key := fmt.Sprint(depth, texts(d))
	if depth == 0 || x.seen[key] {
		return
	}
	x.seen[key] = true
	for _, calls := range ofDepth(depth) {
		for fuse := 0; ; fuse++ {
			b := opened(t, d.Copy())
			if !slices.Equal(b.l.Records(), old) {
				t.Fatalf("Records %q, want %q", b.l.Records(), old)
			}
			for _, y := range calls[:len(calls)-1] {
				b.do(t, y)
			}
			b.fuse(fuse)
			next, _, _ := b.p.behind(calls[len(calls)-1])
			if e := b.do(t, calls[len(calls)-1]); e != api.ErrDown {
				b.crash() // takes the fuse away; nothing waits
				x.from(t, b.d, next.records, depth-1)
				break
			}
			for _, keep := range choices(b.d.Waiting()) {
				x.lose(t, b.d, keep, old, next.records, depth)
			}
		}
	}
}

// lose takes the power away, keeping these writes: the records are the old ones or the new ones, also behind another loss within Open.
func (x *explorer) lose(t *testing.T, d *disk.Disk, keep []int, old, next []string, depth int) {
	t.Helper()
	x.losses++
	d = d.Copy()
	d.Crash(keep)
	d.Fuse(0)
	l, e := Open(d)
	if e != api.OK || !slices.Equal(l.Records(), old) && !slices.Equal(l.Records(), next) {
		t.Fatalf("kept %v of a disk that is %q: %d, %q, want %q or %q", keep, texts(d), int(e), l.Records(), old, next)
	}
	d.Flush()
	d.Crash(nil)
	isLog(t, d, l.Records()...)
	x.from(t, d, l.Records(), depth-1)
}

func TestEachLossOfPower(t *testing.T) {
	for _, n := range []int{6, 9} {
		x := &explorer{seen: map[string]bool{}}
		for fuse := range 3 { // within the first Open, and then within the one behind it
			for _, keep := range []int{0, 1} {
				d := newDisk(t, n)
				d.Fuse(fuse)
				Open(d)
				d.Crash([]int{keep})
				for again := range 6 {
					c := d.Copy()
					c.Fuse(again / 2)
					Open(c)
					c.Crash([]int{again % 2})
					if l, e := Open(c); e != api.OK || len(l.Records()) != 0 {
						t.Fatalf("%d, %q", int(e), l.Records())
					}
					x.from(t, c, nil, 3)
				}
			}
		}
		if x.losses < 10000 {
			t.Errorf("of %d blocks: only %d losses", n, x.losses)
		}
	}
}

// What was synced is there, also of records that are many blocks long, where not all choices can be tried.
func TestLossesOfLongRecords(t *testing.T) {
	chance := rand.New(rand.NewSource(6))
	for range 150 {
		b := opened(t, newDisk(t, 300))
		for range 6 {
			ends := [][]call{{add(long('x', chance.Intn(3000))), add(long('y', chance.Intn(1000))), sync()}, {reset(long('z', chance.Intn(4097)), "r")}}
			end := ends[chance.Intn(2)]
			for _, x := range end[:len(end)-1] {
				b.do(t, x)
			}
			old := b.l.Records()
			next, ops, _ := b.p.behind(end[len(end)-1])
			b.fuse(chance.Intn(len(ops) + 2))
			if e := b.do(t, end[len(end)-1]); e == api.ErrDown {
				b.crashAndOpen(t, chance)
				if got := b.l.Records(); !slices.Equal(got, old) && !slices.Equal(got, next.records) {
					t.Fatalf("behind%s: %.300q", b.did, got)
				}
			} else if e == api.OK && !slices.Equal(b.l.Records(), next.records) {
				t.Fatalf("behind%s: %.300q", b.did, b.l.Records())
			}
			b.crash()
		}
	}
}

// A log that was told OK is found by the next Open, whatever is lost behind it.
func TestWhatWasDoneStays(t *testing.T) {
	for _, past := range pasts() {
		for _, end := range ends() {
			b := run(t, 8, append(slices.Clone(past), end...)...)
			want := b.p.records
			b.d.Crash(nil)
			isLog(t, b.d, want...)
		}
	}
}

// Rule 5: memory

func TestWhatIsHandedInIsNotKept(t *testing.T) {
	b := run(t, 8)
	recs := []string{"a", "b", "c", "d"}
	b.do(t, reset(recs[:3]...))
	if e := b.l.Reset(recs[:3]); e != api.OK {
		t.Fatal(int(e))
	}
	recs[0], recs[1], recs[2], recs[3] = "w", "x", "y", "z"
	if got := b.l.Records(); !slices.Equal(got, []string{"a", "b", "c"}) {
		t.Errorf("Records %q", got)
	}
	isLog(t, b.d, "a", "b", "c")
	b.l.Add("e") // what it puts behind the three does not go into the memory that was handed in
	b.l.Sync()
	if !slices.Equal(recs, []string{"w", "x", "y", "z"}) {
		t.Errorf("what was handed in was changed: %q", recs)
	}
	isLog(t, b.d, "a", "b", "c", "e")
	bytes := []byte("bytes")
	b.l.Add(string(bytes))
	bytes[0] = 'x'
	b.l.Sync()
	isLog(t, b.d, "a", "b", "c", "e", "bytes")
}

func TestWhatIsToldIsNew(t *testing.T) {
	ways := map[string]func() *Log{
		"Sync":  func() *Log { return run(t, 8, add("a"), sync(), add("b"), sync(), add("c"), sync()).l },
		"Reset": func() *Log { return run(t, 8, reset("a", "b", "c")).l },
		"Open":  func() *Log { return isLog(t, run(t, 8, reset("a", "b", "c")).d, "a", "b", "c") },
	}
	for name, make := range ways {
		l := make()
		first, second := l.Records(), l.Records()
		first = append(first, "q")
		for i := range first[:cap(first)] {
			first[:cap(first)][i] = "x"
		}
		if !slices.Equal(second, []string{"a", "b", "c"}) || !slices.Equal(l.Records(), second) {
			t.Fatalf("%s: %q, %q", name, second, l.Records())
		}
		for i := range second[:cap(second)] {
			second[:cap(second)][i] = "y"
		}
		third := l.Records()
		l.Add("d")
		l.Sync()
		fourth := l.Records()
		l.Reset([]string{"e", "f", "g", "h", "i"})
		if !slices.Equal(third, []string{"a", "b", "c"}) || !slices.Equal(fourth, []string{"a", "b", "c", "d"}) {
			t.Errorf("%s: what was told was changed: %q, %q", name, third, fourth)
		}
		if got := l.Records(); !slices.Equal(got, []string{"e", "f", "g", "h", "i"}) {
			t.Errorf("%s: Records %q", name, got)
		}
	}
}

// Two logs of two disks have nothing in common, also where one disk is the other's copy.
func TestLogsOfCopies(t *testing.T) {
	b := run(t, 8, add("a"), sync())
	c := opened(t, b.d.Copy())
	b.do(t, add("b"))
	b.do(t, sync())
	c.isTold(t)
	c.do(t, reset("c"))
	b.isTold(t)
	isLog(t, b.d, "a", "b")
	isLog(t, c.d, "c")
}
