package disk

import (
	"bytes"
	"fmt"
	"math"
	"math/rand"
	"slices"
	"strings"
	"testing"

	"veneer/api"
)

// full is a block of one byte alone; marked is one that begins with a number, so that no two are the same.

func full(c byte) string { return strings.Repeat(string([]byte{c}), 64) }

func marked(n int) string { return fmt.Sprintf("%-64d", n) }

func wait(block, n int) api.Wait { return api.Wait{Block: block, N: n} }

// imageOf is blocks as bytes, each in memory of its own.
func imageOf(blocks ...string) [][]byte {
	out := make([][]byte, len(blocks))
	for i, b := range blocks {
		out[i] = []byte(b)
	}
	return out
}

// texts is an image as texts.
func texts(image [][]byte) []string {
	out := make([]string, len(image))
	for i, b := range image {
		out[i] = string(b)
	}
	return out
}

// paper is a disk by the chapter's words: of each block all that it may have behind a crash, what is durable first, then what waits, the first write first.
type paper struct {
	blocks [][]string
	isDown bool
	done   int
	fuses  []int // none, or the one that there is
}

func paperOf(blocks ...string) *paper {
	p := &paper{}
	for _, b := range blocks {
		p.blocks = append(p.blocks, []string{b})
	}
	return p
}

func noughts(n int) *paper { return paperOf(slices.Repeat([]string{full(0)}, n)...) }

// refuses is what P9.2 says of a block's number, and of how many bytes are written there.
func (p *paper) refuses(i, size int) api.Errno {
	switch {
	case p.isDown:
		return api.ErrDown
	case i < 0 || i > len(p.blocks)-1 || size != 64:
		return api.ErrArg
	}
	return api.OK
}

func (p *paper) read(i int) (string, api.Errno) {
	if e := p.refuses(i, 64); e != api.OK {
		return "", e
	}
	return p.blocks[i][len(p.blocks[i])-1], api.OK
}

func (p *paper) write(i int, b string) api.Errno {
	if e := p.refuses(i, len(b)); e != api.OK {
		return e
	}
	return p.through(func() { p.blocks[i] = append(p.blocks[i], b) })
}

func (p *paper) flush() api.Errno {
	if p.isDown {
		return api.ErrDown
	}
	return p.through(func() {
		for i, l := range p.blocks {
			p.blocks[i] = l[len(l)-1:]
		}
	})
}

// through is what P9.2 says of a fuse.
func (p *paper) through(do func()) api.Errno {
	if len(p.fuses) == 1 && p.fuses[0] == 0 {
		p.isDown = true
		return api.ErrDown
	}
	if len(p.fuses) == 1 {
		p.fuses = []int{p.fuses[0] - 1}
	}
	p.done++
	do()
	return api.OK
}

func (p *paper) fuse(n int) api.Errno {
	switch {
	case p.isDown:
		return api.ErrDown
	case n < 0:
		return api.ErrArg
	}
	p.fuses = []int{n}
	return api.OK
}

func (p *paper) waiting() []api.Wait {
	var out []api.Wait
	for i, l := range p.blocks {
		if len(l) > 1 {
			out = append(out, wait(i, len(l)-1))
		}
	}
	return out
}

func (p *paper) crash(keep []int) api.Errno {
	for k, w := range p.waiting() {
		m := 0
		if k < len(keep) && keep[k] >= 0 {
			m = keep[k] % (w.N + 1)
		}
		p.blocks[w.Block] = p.blocks[w.Block][m : m+1]
	}
	p.isDown, p.fuses = false, nil
	return api.OK
}

func (p *paper) image() []string {
	var out []string
	for _, l := range p.blocks {
		out = append(out, l[0])
	}
	return out
}

func (p *paper) copy() *paper {
	another := &paper{isDown: p.isDown, done: p.done, fuses: p.fuses}
	for _, l := range p.blocks {
		another.blocks = append(another.blocks, slices.Clone(l))
	}
	return another
}

// deed is a call that may change a disk; n is a block or a fuse.
type deed struct {
	name string
	n    int
	b    string
	keep []int
}

func write(i int, b string) deed { return deed{name: "Write", n: i, b: b} }
func flush() deed                { return deed{name: "Flush"} }
func fuse(n int) deed            { return deed{name: "Fuse", n: n} }
func crash(keep ...int) deed     { return deed{name: "Crash", keep: keep} }

func (x deed) on(d *Disk) api.Errno {
	switch x.name {
	case "Write":
		return d.Write(x.n, []byte(x.b))
	case "Flush":
		return d.Flush()
	case "Fuse":
		return d.Fuse(x.n)
	}
	return d.Crash(x.keep)
}

func (x deed) onPaper(p *paper) api.Errno {
	switch x.name {
	case "Write":
		return p.write(x.n, x.b)
	case "Flush":
		return p.flush()
	case "Fuse":
		return p.fuse(x.n)
	}
	return p.crash(x.keep)
}

// show is deeds as a text that is not too long.
func show(l []deed) string {
	out := ""
	for _, x := range l {
		out += fmt.Sprintf(" %s %d %.10q %v;", x.name, x.n, x.b, x.keep)
	}
	return fmt.Sprintf("[%.1500s ]", out)
}

// made is a disk of n blocks, and its paper.
func made(t *testing.T, n int) (*Disk, *paper) {
	t.Helper()
	d, e := New(n)
	if e != api.OK || d == nil {
		t.Fatalf("New(%d) = %v, %d", n, d, int(e))
	}
	return d, noughts(n)
}

// behind is a disk of n blocks, and its paper, behind these deeds.
func behind(t *testing.T, n int, deeds ...deed) (*Disk, *paper) {
	t.Helper()
	d, p := made(t, n)
	for i, x := range deeds {
		isDone(t, d, p, x, deeds[:i+1])
	}
	isTold(t, d, p, deeds)
	return d, p
}

// isDone does a deed to both, and fails where their answers are not the same.
func isDone(t *testing.T, d *Disk, p *paper, x deed, did []deed) api.Errno {
	t.Helper()
	want := x.onPaper(p)
	if got := x.on(d); got != want {
		t.Fatalf("the last of %s answers %d, want %d", show(did), int(got), int(want))
	}
	return want
}

// isTold fails where what a disk tells of itself is not what its paper tells.
func isTold(t *testing.T, d *Disk, p *paper, did []deed) {
	t.Helper()
	if d.Blocks() != len(p.blocks) || d.Up() == p.isDown || d.Done() != p.done {
		t.Fatalf("behind %s: Blocks %d, Up %v, Done %d, want %d, %v, %d", show(did), d.Blocks(), d.Up(), d.Done(), len(p.blocks), !p.isDown, p.done)
	}
	if got := d.Waiting(); !slices.Equal(got, p.waiting()) {
		t.Fatalf("behind %s: Waiting %v, want %v", show(did), got, p.waiting())
	}
	if got := texts(d.Image()); !slices.Equal(got, p.image()) {
		t.Fatalf("behind %s: Image %.2000q, want %.2000q", show(did), got, p.image())
	}
	for i := -1; i <= len(p.blocks); i++ {
		isRead(t, d, p, i, did)
	}
	for n := range 4 {
		if got, want := lets(d.Copy(), n+1), !p.isDown && (p.fuses == nil || p.fuses[0] > n); got != want {
			t.Fatalf("behind %s: that %d more are let through is %v, want %v", show(did), n+1, got, want)
		}
	}
}

func isRead(t *testing.T, d *Disk, p *paper, i int, did []deed) {
	t.Helper()
	want, why := p.read(i)
	if got, e := d.Read(i); string(got) != want || e != why {
		t.Fatalf("behind %s: Read(%d) = %q, %d, want %q, %d", show(did), i, got, int(e), want, int(why))
	}
}

// lets tells whether a disk lets n flushes through.
func lets(d *Disk, n int) bool {
	for range n {
		if d.Flush() != api.OK {
			return false
		}
	}
	return true
}

// strange are numbers that no disk has a block of, whatever its length.
func strange() []int {
	return []int{-1, -2, -64, -4096, 4096, 4097, 1 << 16, 1 << 31, 1 << 32, 1<<32 + 1, math.MaxInt32, math.MinInt32, math.MaxInt, math.MinInt, math.MinInt + 1}
}

// P9.1: New, Of, Blocks

func TestNewHasNoughts(t *testing.T) {
	for _, n := range []int{1, 2, 3, 63, 64, 65, 1000, 4095, 4096} {
		d, p := made(t, n)
		if d.Blocks() != n {
			t.Errorf("New(%d) has %d blocks", n, d.Blocks())
		}
		isTold(t, d, p, nil)
	}
}

func TestNewIsRefused(t *testing.T) {
	for _, n := range append(strange(), 0, 4097, 4098, 8192) {
		if n == 4096 {
			continue
		}
		d, e := New(n)
		if d != nil || e != api.ErrArg {
			t.Errorf("New(%d) = %v, %d", n, d, int(e))
		}
	}
}

func TestOfHasTheImage(t *testing.T) {
	for _, n := range []int{1, 2, 3, 64, 4095, 4096} {
		blocks := make([]string, n)
		for i := range blocks {
			blocks[i] = marked(i)
		}
		blocks[0] = full(255)
		d, e := Of(imageOf(blocks...))
		if e != api.OK || d.Blocks() != n {
			t.Fatalf("Of %d blocks: %d, %d blocks", n, int(e), d.Blocks())
		}
		isTold(t, d, paperOf(blocks...), nil)
	}
}

func TestOfIsRefused(t *testing.T) {
	bad := [][][]byte{nil, {}, imageOf(slices.Repeat([]string{full(1)}, 4097)...), imageOf(slices.Repeat([]string{full(1)}, 5000)...)}
	for _, size := range []int{0, 1, 32, 63, 65, 66, 128, 4096} {
		short := strings.Repeat("x", size)
		bad = append(bad, imageOf(short), imageOf(short, full(1), full(2)), imageOf(full(1), short, full(2)), imageOf(full(1), full(2), short))
		last := slices.Repeat([]string{full(1)}, 4096)
		last[4095] = short
		bad = append(bad, imageOf(last...))
	}
	bad = append(bad, [][]byte{nil}, [][]byte{[]byte(full(1)), nil}, imageOf(full(1)[:32], full(1)+full(1)[:32]))
	for _, image := range bad {
		if d, e := Of(image); d != nil || e != api.ErrArg {
			t.Errorf("Of %d blocks, %.300q = %v, %d", len(image), image, d, int(e))
		}
	}
}

func TestNewAndOfHaveNoFuse(t *testing.T) {
	made, _ := New(2)
	of, _ := Of(imageOf(full('x'), full('y')))
	for _, d := range []*Disk{made, of} {
		for i := range 5000 {
			if d.Write(i%2, []byte(marked(i))) != api.OK || i%100 == 0 && d.Flush() != api.OK {
				t.Fatalf("write %d is refused", i)
			}
		}
		if !d.Up() || d.Done() != 5050 {
			t.Errorf("Up %v, Done %d", d.Up(), d.Done())
		}
	}
}

// The rule of objects that no call made

func TestNoDisk(t *testing.T) {
	refused, _ := New(0)
	torn, _ := Of(nil)
	none := map[string]*Disk{"nil": nil, "plain": {}, "new": new(Disk), "of New": refused, "of Of": torn}
	for name, d := range none {
		for range 2 { // the first round has changed nothing
			errs := []api.Errno{d.Flush(), d.Crash(nil), d.Crash([]int{1, 2}), d.Fuse(0), d.Fuse(3), d.Fuse(-1), d.Write(0, []byte(full(1))), d.Write(-1, nil), d.Write(0, nil), d.Write(1, []byte("x"))}
			for _, i := range append(strange(), 0, 1) {
				b, e := d.Read(i)
				if len(b) != 0 {
					t.Errorf("%s: Read(%d) = %q", name, i, b)
				}
				errs = append(errs, e)
			}
			for k, e := range errs {
				if e != api.ErrNil {
					t.Errorf("%s: call %d answers %d", name, k, int(e))
				}
			}
			if d.Blocks() != 0 || d.Up() || d.Done() != 0 || len(d.Waiting()) != 0 || len(d.Image()) != 0 || d.Copy() != nil {
				t.Errorf("%s: %d, %v, %d, %v, %q, %v", name, d.Blocks(), d.Up(), d.Done(), d.Waiting(), d.Image(), d.Copy())
			}
		}
	}
}

// P9.2: Read, Write, Flush

func TestReadTellsTheLastWrite(t *testing.T) {
	d, _ := made(t, 3)
	reads := func(i int, want string) {
		t.Helper()
		if b, e := d.Read(i); string(b) != want || e != api.OK {
			t.Fatalf("Read(%d) = %q, %d, want %q", i, b, int(e), want)
		}
	}
	reads(1, full(0))
	d.Write(1, []byte(full('a')))
	reads(1, full('a')) // it waits
	reads(0, full(0))
	reads(2, full(0))
	d.Write(1, []byte(full('b')))
	reads(1, full('b')) // two wait
	d.Flush()
	reads(1, full('b')) // it is durable
	d.Write(1, []byte(full('c')))
	d.Write(2, []byte(full('d')))
	reads(1, full('c'))
	reads(2, full('d'))
	d.Write(1, []byte(full(0))) // noughts are written as any others
	reads(1, full(0))
	if got := d.Image(); string(got[1]) != full('b') || string(got[2]) != full(0) {
		t.Errorf("what waits is durable: %q", got)
	}
	d.Crash(nil)
	reads(1, full('b'))
	reads(2, full(0))
}

func TestWriteHasEachByte(t *testing.T) {
	d, _ := made(t, 1)
	for k := range 64 {
		b := make([]byte, 64)
		b[k] = 7
		for _, do := range []func() api.Errno{func() api.Errno { return d.Write(0, b) }, d.Flush} {
			if e := do(); e != api.OK {
				t.Fatal(int(e))
			}
			if got, _ := d.Read(0); !bytes.Equal(got, b) {
				t.Fatalf("%v is read as %v", b, got)
			}
		}
		if got := d.Image()[0]; !bytes.Equal(got, b) {
			t.Fatalf("%v is durable as %v", b, got)
		}
	}
}

func TestBlocksThatThereAreNot(t *testing.T) {
	for _, n := range []int{1, 2, 3, 4096} {
		d, p := made(t, n)
		bad := []int{n, n + 1, 2 * n, n + 1<<32}
		for _, i := range strange() {
			if i < 0 || i >= n {
				bad = append(bad, i)
			}
		}
		for _, i := range bad {
			if b, e := d.Read(i); len(b) != 0 || e != api.ErrArg {
				t.Errorf("of %d blocks: Read(%d) = %q, %d", n, i, b, int(e))
			}
			if e := d.Write(i, []byte(full('x'))); e != api.ErrArg {
				t.Errorf("of %d blocks: Write(%d) = %d", n, i, int(e))
			}
		}
		isTold(t, d, p, nil)
		for _, x := range []deed{write(0, full('f')), write(n-1, full('l')), write(n, full('x')), flush(), write(n-1, full('m'))} {
			isDone(t, d, p, x, nil)
			isTold(t, d, p, nil)
		}
	}
}

func TestWriteOfTooFewAndTooMany(t *testing.T) {
	d, p := behind(t, 2, write(0, full('a')), flush(), write(0, full('b')))
	for _, size := range []int{0, 1, 2, 32, 62, 63, 65, 66, 127, 128, 4096} {
		for _, i := range []int{0, 1, 2, -1} {
			if e := d.Write(i, bytes.Repeat([]byte("x"), size)); e != api.ErrArg {
				t.Errorf("Write(%d) of %d bytes = %d", i, size, int(e))
			}
		}
	}
	if e := d.Write(0, nil); e != api.ErrArg {
		t.Errorf("Write of nil = %d", int(e))
	}
	isTold(t, d, p, nil)
}

func TestFlushMakesTheLastDurable(t *testing.T) {
	d, _ := made(t, 5)
	for i := range 4 {
		for n := range i {
			d.Write(i, []byte(marked(10*i+n)))
		}
	}
	if e := d.Flush(); e != api.OK {
		t.Fatal(int(e))
	}
	want := []string{full(0), marked(10), marked(21), marked(32), full(0)}
	if got := texts(d.Image()); !slices.Equal(got, want) || len(d.Waiting()) != 0 {
		t.Errorf("%q, want %q; waiting %v", got, want, d.Waiting())
	}
	for range 3 { // none waits: it is done all the same
		if e := d.Flush(); e != api.OK {
			t.Fatal(int(e))
		}
	}
	if got := texts(d.Image()); !slices.Equal(got, want) || d.Done() != 10 {
		t.Errorf("%q, want %q; done %d", got, want, d.Done())
	}
}

func TestDownRefusesAllElse(t *testing.T) {
	for name, last := range map[string]deed{"by a Write": write(1, full('x')), "by a Flush": flush()} {
		d, p := behind(t, 2, write(0, full('a')), flush(), write(0, full('b')), write(1, full('c')), fuse(1), write(0, full('d')))
		if e := isDone(t, d, p, last, nil); e != api.ErrDown || d.Up() {
			t.Fatalf("%s: %d, Up %v", name, int(e), d.Up())
		}
		for range 2 {
			for _, i := range append(strange(), 0, 1, 2) { // that it is down comes ahead of what is wrong with the call
				b, e := d.Read(i)
				errs := []api.Errno{e, d.Write(i, []byte(full('y'))), d.Write(i, nil), d.Write(i, make([]byte, 65)), d.Flush(), d.Fuse(i), d.Fuse(5)}
				if len(b) != 0 || slices.ContainsFunc(errs, func(e api.Errno) bool { return e != api.ErrDown }) {
					t.Fatalf("%s: of %d: %q, %v", name, i, b, errs)
				}
			}
			if got, want := texts(d.Image()), []string{full('a'), full(0)}; !slices.Equal(got, want) {
				t.Errorf("%s: durable is %q", name, got)
			}
			if got := d.Waiting(); !slices.Equal(got, []api.Wait{wait(0, 2), wait(1, 1)}) || d.Done() != 5 || d.Blocks() != 2 || d.Up() {
				t.Errorf("%s: Waiting %v, Done %d, Blocks %d, Up %v", name, got, d.Done(), d.Blocks(), d.Up())
			}
		}
		isTold(t, d, p, nil)
	}
}

// P9.3: Fuse, Up, Done, Waiting

func TestFuseOfNone(t *testing.T) {
	d, _ := made(t, 2)
	if e := d.Fuse(0); e != api.OK || !d.Up() {
		t.Fatalf("Fuse(0) = %d, Up %v: it goes down with the next one alone", int(e), d.Up())
	}
	if b, e := d.Read(0); string(b) != full(0) || e != api.OK {
		t.Errorf("Read = %q, %d", b, int(e))
	}
	if e := d.Write(0, []byte(full('a'))); e != api.ErrDown || d.Up() || d.Done() != 0 || len(d.Waiting()) != 0 {
		t.Errorf("Write = %d, Up %v, Done %d, Waiting %v", int(e), d.Up(), d.Done(), d.Waiting())
	}
	d, _ = made(t, 2)
	d.Write(0, []byte(full('a')))
	d.Fuse(0)
	if e := d.Flush(); e != api.ErrDown || d.Up() || d.Done() != 1 || len(d.Waiting()) != 1 || string(d.Image()[0]) != full(0) {
		t.Errorf("Flush = %d, Up %v, Done %d, Waiting %v", int(e), d.Up(), d.Done(), d.Waiting())
	}
}

// What is refused for its arguments is no use of the fuse, nor is a Read.
func TestFuseIsNotBurntByWhatIsRefused(t *testing.T) {
	for n := range 3 {
		d, p := behind(t, 2, fuse(n))
		for range 3 {
			for _, x := range []deed{write(2, full('a')), write(-1, full('a')), write(0, "a"), write(0, full('a')+"a"), fuse(-1), fuse(math.MinInt)} {
				if e := isDone(t, d, p, x, nil); e != api.ErrArg || !d.Up() {
					t.Fatalf("with a fuse of %d: %d, Up %v", n, int(e), d.Up())
				}
			}
			d.Read(0)
			d.Read(7)
			isTold(t, d, p, nil)
		}
		for range n {
			if e := isDone(t, d, p, write(0, full('b')), nil); e != api.OK {
				t.Fatal(int(e))
			}
		}
		if e := isDone(t, d, p, flush(), nil); e != api.ErrDown {
			t.Errorf("behind a fuse of %d: %d", n, int(e))
		}
	}
}

func TestFuseInThePlaceOfAnother(t *testing.T) {
	for _, first := range []int{0, 1, 2, 5, math.MaxInt} {
		for _, second := range []int{0, 1, 2, 3, 5} {
			for used := range min(first, 3) + 1 {
				d, p := behind(t, 2, fuse(first))
				for range used {
					isDone(t, d, p, write(0, full('a')), nil)
				}
				isDone(t, d, p, fuse(second), nil)
				isTold(t, d, p, nil)
				if !lets(d, second) || d.Flush() != api.ErrDown || d.Up() || d.Done() != used+second {
					t.Errorf("a fuse of %d behind one of %d: Up %v, Done %d", second, first, d.Up(), d.Done())
				}
			}
		}
	}
}

func TestFuseThatIsRefused(t *testing.T) {
	for _, n := range []int{-1, -2, -64, math.MinInt32, math.MinInt + 1, math.MinInt} {
		d, p := behind(t, 1)
		if e := d.Fuse(n); e != api.ErrArg {
			t.Errorf("Fuse(%d) = %d", n, int(e))
		}
		isTold(t, d, p, nil) // there is none still
		isDone(t, d, p, fuse(2), nil)
		if e := d.Fuse(n); e != api.ErrArg {
			t.Errorf("Fuse(%d) = %d", n, int(e))
		}
		isTold(t, d, p, nil) // the one ahead of it stays
	}
}

func TestFuseThatIsLong(t *testing.T) {
	for _, n := range []int{1000, 1 << 31, 1 << 32, math.MaxInt - 1, math.MaxInt} {
		d, _ := made(t, 1)
		if e := d.Fuse(n); e != api.OK {
			t.Fatal(int(e))
		}
		if !lets(d, 1000) || d.Done() != 1000 || !d.Up() {
			t.Errorf("a fuse of %d: Done %d, Up %v", n, d.Done(), d.Up())
		}
		if down := d.Flush() == api.ErrDown; down != (n == 1000) {
			t.Errorf("a fuse of %d: behind 1000 it is down: %v", n, down)
		}
	}
}

func TestDoneTellsHowManyWereDone(t *testing.T) {
	d, _ := made(t, 2)
	done := func(want int) {
		t.Helper()
		if d.Done() != want {
			t.Fatalf("Done %d, want %d", d.Done(), want)
		}
	}
	done(0)
	d.Write(0, []byte(full('a')))
	done(1)
	d.Flush()
	done(2)
	d.Write(2, []byte(full('a'))) // refused
	d.Write(0, nil)
	d.Read(0)
	d.Read(9)
	d.Waiting()
	d.Image()
	d.Copy().Flush()
	d.Fuse(-1)
	d.Fuse(1)
	done(2)
	d.Write(1, []byte(full('b')))
	done(3)
	d.Write(1, []byte(full('c'))) // the fuse has come to 0
	d.Flush()
	d.Write(1, []byte(full('c')))
	done(3)
	d.Crash([]int{1}) // what was done stays so
	done(3)
	d.Flush()
	done(4)
}

func TestWaitingRises(t *testing.T) {
	const n = 4096
	d, p := made(t, n)
	chance := rand.New(rand.NewSource(901))
	for _, i := range chance.Perm(n) {
		if i%3 == 0 {
			continue
		}
		for k := range i%5 + 1 {
			isDone(t, d, p, write(i, marked(k)), nil)
		}
	}
	got := d.Waiting()
	if !slices.Equal(got, p.waiting()) || !slices.IsSortedFunc(got, func(x, y api.Wait) int { return x.Block - y.Block }) || len(got) != 2730 {
		t.Fatalf("%d wait: %v", len(got), got)
	}
	for range 20 {
		if !slices.Equal(d.Waiting(), got) {
			t.Fatal("told in another order")
		}
	}
	keep := make([]int, len(got))
	for k := range keep {
		keep[k] = k
	}
	isDone(t, d, p, crash(keep...), nil)
	isTold(t, d, p, nil)
}

func TestWaitingBehindWhatWasDone(t *testing.T) {
	d, _ := made(t, 3)
	waits := func(want ...api.Wait) {
		t.Helper()
		if got := d.Waiting(); !slices.Equal(got, want) {
			t.Fatalf("Waiting %v, want %v", got, want)
		}
	}
	waits()
	d.Write(2, []byte(full('a')))
	waits(wait(2, 1))
	d.Write(0, []byte(full('a')))
	waits(wait(0, 1), wait(2, 1))
	d.Write(2, []byte(full('a'))) // the same bytes are one write more
	waits(wait(0, 1), wait(2, 2))
	d.Write(3, []byte(full('a'))) // refused
	d.Write(1, []byte("a"))
	waits(wait(0, 1), wait(2, 2))
	d.Flush()
	waits()
	d.Write(1, []byte(full('a')))
	d.Fuse(0)
	waits(wait(1, 1))
	d.Flush() // refused
	waits(wait(1, 1))
	d.Write(1, []byte(full('a')))
	waits(wait(1, 1))
	d.Crash(nil)
	waits()
}

// P9.4: Crash, Image, Copy

func TestExample(t *testing.T) {
	d, _ := made(t, 4)
	for _, x := range []deed{write(1, full('a')), write(1, full('b')), write(2, full('c'))} {
		if e := x.on(d); e != api.OK {
			t.Fatal(int(e))
		}
	}
	if got := d.Waiting(); !slices.Equal(got, []api.Wait{wait(1, 2), wait(2, 1)}) {
		t.Error(got)
	}
	if e := d.Crash([]int{1}); e != api.OK {
		t.Error(int(e))
	}
	if got, want := texts(d.Image()), []string{full(0), full('a'), full(0), full(0)}; !slices.Equal(got, want) {
		t.Errorf("%q, want %q", got, want)
	}
	if d.Fuse(1) != api.OK || d.Write(0, []byte(full('a'))) != api.OK || d.Flush() != api.ErrDown || d.Up() {
		t.Error("a fuse of 1")
	}
}

func TestCrashKeepsTheFirstOfABlock(t *testing.T) {
	for _, c := range []struct{ n, keep, want int }{
		{1, 0, 0}, {1, 1, 1}, {1, 2, 0}, {1, 3, 1}, {1, 4, 0}, {1, -1, 0}, {1, -2, 0},
		{2, 0, 0}, {2, 1, 1}, {2, 2, 2}, {2, 3, 0}, {2, 4, 1}, {2, 5, 2}, {2, 6, 0}, {2, -1, 0}, {2, -2, 0}, {2, -3, 0}, {2, -4, 0},
		{3, 0, 0}, {3, 1, 1}, {3, 2, 2}, {3, 3, 3}, {3, 4, 0}, {3, 5, 1}, {3, 7, 3}, {3, 8, 0}, {3, -1, 0}, {3, -3, 0}, {3, -4, 0}, {3, -5, 0},
		{4, 4, 4}, {4, 5, 0}, {4, 1 << 32, 1}, {7, 1<<32 + 3, 3}, {2, 1 << 32, 1}, {2, 1 << 40, 1},
		{1, math.MaxInt, 1}, {2, math.MaxInt, 1}, {4, math.MaxInt, 2}, {9, math.MaxInt, 7}, {1, math.MaxInt - 1, 0}, {2, math.MaxInt - 1, 0},
		{1, math.MinInt, 0}, {2, math.MinInt, 0}, {3, math.MinInt, 0}, {2, math.MinInt + 1, 0}, {4, math.MinInt32, 0},
	} {
		for _, isDown := range []bool{false, true} {
			d, p := behind(t, 3, write(1, marked(0)), flush())
			for k := range c.n {
				isDone(t, d, p, write(1, marked(k+1)), nil)
			}
			if isDown {
				d.Fuse(0)
				d.Flush()
			}
			if e := d.Crash([]int{c.keep}); e != api.OK {
				t.Fatal(int(e))
			}
			want := []string{full(0), marked(c.want), full(0)}
			if got := texts(d.Image()); !slices.Equal(got, want) || len(d.Waiting()) != 0 || !d.Up() || d.Done() != c.n+2 {
				t.Errorf("of %d writes keep %d: %.20q, want %.20q; Waiting %v, Up %v, Done %d", c.n, c.keep, got, want, d.Waiting(), d.Up(), d.Done())
			}
			if b, e := d.Read(1); string(b) != marked(c.want) || e != api.OK {
				t.Errorf("of %d writes keep %d: Read %q, %d", c.n, c.keep, b, int(e))
			}
			if !lets(d, 10) {
				t.Error("there is a fuse behind a crash")
			}
		}
	}
}

// A place of keep belongs to the block that is there among those that wait, not to the block of that number.
func TestCrashKeepsBlockByBlock(t *testing.T) {
	for _, c := range []struct {
		keep []int
		want [3]int
	}{
		{nil, [3]int{}},
		{[]int{}, [3]int{}},
		{[]int{0, 0, 0}, [3]int{}},
		{[]int{1}, [3]int{1, 0, 0}},
		{[]int{2}, [3]int{0, 0, 0}},
		{[]int{1, 2}, [3]int{1, 2, 0}},
		{[]int{0, 0, 3}, [3]int{0, 0, 3}},
		{[]int{-1, 1, -1}, [3]int{0, 1, 0}},
		{[]int{1, 2, 3}, [3]int{1, 2, 3}},
		{[]int{2, 3, 4}, [3]int{0, 0, 0}},
		{[]int{3, 4, 5}, [3]int{1, 1, 1}},
		{[]int{3, 2, 1}, [3]int{1, 2, 1}},
		{[]int{1, 2, 3, 1}, [3]int{1, 2, 3}},
		{[]int{1, -2, 2, 1, 1, 1, 1, 1, 1, 1, 1, 1}, [3]int{1, 0, 2}},
	} {
		d, _ := made(t, 9)
		for k, i := range []int{2, 5, 8} {
			for n := range k + 1 {
				d.Write(i, []byte(marked(10*i+n+1)))
			}
		}
		keep := slices.Clone(c.keep)
		if e := d.Crash(keep); e != api.OK {
			t.Fatal(int(e))
		}
		want := slices.Repeat([]string{full(0)}, 9)
		for k, i := range []int{2, 5, 8} {
			if c.want[k] > 0 {
				want[i] = marked(10*i + c.want[k])
			}
		}
		if got := texts(d.Image()); !slices.Equal(got, want) {
			t.Errorf("keep %v: %.20q, want %.20q", c.keep, got, want)
		}
		if !slices.Equal(keep, c.keep) {
			t.Errorf("keep %v was changed: %v", c.keep, keep)
		}
	}
}

func TestCrashOfWhereNothingWaits(t *testing.T) {
	for _, keep := range [][]int{nil, {}, {1}, {-1}, {0, 5, math.MaxInt}} {
		d, p := behind(t, 2, crash(keep...), write(0, full('a')), flush(), crash(keep...), crash(keep...), fuse(0), crash(keep...), flush(), fuse(0), flush(), crash(keep...), flush())
		if d.Done() != 4 || p.image()[0] != full('a') {
			t.Errorf("Done %d, %q", d.Done(), p.image())
		}
	}
}

func TestCrashTakesTheFuseAway(t *testing.T) {
	for n := range 3 {
		d, _ := behind(t, 1, fuse(n), crash())
		if !lets(d, 20) {
			t.Errorf("the fuse of %d stays behind a crash", n)
		}
	}
}

func TestImageIsWhatIsDurable(t *testing.T) {
	start := []string{full('p'), full('q'), full('r')}
	d, e := Of(imageOf(start...))
	if e != api.OK {
		t.Fatal(int(e))
	}
	tells := func(want ...string) {
		t.Helper()
		if got := texts(d.Image()); !slices.Equal(got, want) {
			t.Fatalf("%q, want %q", got, want)
		}
	}
	tells(start...)
	d.Write(1, []byte(full('a')))
	d.Write(1, []byte(full('b')))
	d.Write(0, []byte(full('c')))
	tells(start...)
	d.Fuse(0)
	tells(start...)
	d.Flush()
	tells(start...) // it is down
	d.Crash([]int{0, 2})
	tells(full('p'), full('b'), full('r'))
	d.Write(2, []byte(full('d')))
	d.Flush()
	tells(full('p'), full('b'), full('d'))
	again, e := Of(d.Image())
	if e != api.OK || !slices.Equal(texts(again.Image()), texts(d.Image())) || again.Done() != 0 || !again.Up() {
		t.Errorf("a disk of an image: %d", int(e))
	}
}

func TestCopyHasAll(t *testing.T) {
	first := []deed{write(0, full('a')), flush(), write(0, full('b')), write(0, full('c')), write(2, full('d'))}
	for name, more := range map[string][]deed{
		"up":                nil,
		"with a fuse":       {fuse(2)},
		"with a burnt fuse": {fuse(2), write(2, full('e'))},
		"with one of 0":     {fuse(0)},
		"down":              {fuse(0), write(0, full('x'))},
		"down by a flush":   {fuse(1), write(1, full('e')), flush()},
		"behind a crash":    {fuse(0), flush(), crash(1)},
		"nothing waits":     {flush()},
	} {
		d, p := behind(t, 3, append(slices.Clone(first), more...)...)
		c := d.Copy()
		if c == d {
			t.Fatal("a copy is what it was copied from")
		}
		isTold(t, c, p, more)
		isTold(t, c.Copy(), p, more)
		for _, keep := range [][]int{nil, {1}, {2, 1}, {0, 1}, {1, 1, 1}} { // and the writes that wait are the same, in the same order
			a, b, q := d.Copy(), c.Copy(), p.copy()
			q.crash(keep)
			a.Crash(keep)
			b.Crash(keep)
			if !slices.Equal(texts(a.Image()), q.image()) || !slices.Equal(texts(b.Image()), q.image()) {
				t.Errorf("%s: behind a crash %v: %q and %q, want %q", name, keep, a.Image(), b.Image(), q.image())
			}
		}
	}
}

// A copy and what it was copied from go their own ways.
func TestCopiesGoTheirOwnWays(t *testing.T) {
	deeds := []deed{write(0, full('x')), write(1, full('y')), flush(), fuse(0), fuse(1), crash(), crash(1), crash(2, 1)}
	starts := [][]deed{
		nil,
		{write(0, full('a'))},
		{write(0, full('a')), write(0, full('b')), write(0, full('c'))}, // a list that grew has room behind its end
		{write(0, full('a')), write(0, full('b')), write(0, full('c')), write(0, full('d')), write(0, full('e')), write(1, full('f'))},
		{write(0, full('a')), flush(), write(1, full('b'))},
		{write(0, full('a')), fuse(0), flush()},
		{write(0, full('a')), fuse(3)},
	}
	for _, start := range starts {
		for _, x := range deeds {
			for _, y := range deeds {
				d, p := behind(t, 2, start...)
				c, q := d.Copy(), p.copy()
				did := append(slices.Clone(start), x, y)
				isDone(t, d, p, x, did)
				isTold(t, c, q, did)
				isDone(t, c, q, y, did)
				isTold(t, d, p, did)
				isDone(t, d, p, write(0, full('1')), did)
				isDone(t, c, q, write(0, full('2')), did)
				isTold(t, d, p, did)
				isTold(t, c, q, did)
				isDone(t, d, p, crash(1, 1), did)
				isTold(t, c, q, did)
				isTold(t, d, p, did)
			}
		}
	}
}

// P9.5, and all calls one behind the other

// afterAll does all rows of so many deeds, each from a copy of where the row ahead of it led.
func afterAll(t *testing.T, d *Disk, p *paper, deeds []deed, did []deed, left int) int {
	isTold(t, d, p, did)
	if left == 0 {
		return 1
	}
	n := 1
	for _, x := range deeds {
		c, q := d.Copy(), p.copy()
		next := append(did, x)
		isDone(t, c, q, x, next)
		n += afterAll(t, c, q, deeds, next, left-1)
	}
	return n
}

func TestAllShortRows(t *testing.T) {
	d, p := made(t, 2)
	wide := []deed{
		write(0, full('a')), write(0, full('b')), write(1, full('c')), write(2, full('d')), write(1, full('e')[1:]), flush(),
		fuse(0), fuse(1), fuse(2), fuse(-1), crash(), crash(1), crash(2, 1), crash(-1, 1, 1),
	}
	if n := afterAll(t, d, p, wide, nil, 4); n != 1+14+14*14+14*14*14+14*14*14*14 {
		t.Error(n)
	}
}

func TestAllLongerRows(t *testing.T) {
	d, p := made(t, 2)
	narrow := []deed{write(0, full('a')), write(0, full('b')), write(1, full('c')), flush(), fuse(1), crash(1), crash(2, 1)}
	if n := afterAll(t, d, p, narrow, nil, 6); n != (7*7*7*7*7*7*7-1)/6 {
		t.Error(n)
	}
}

// anyDeed is a deed by chance, wrong ones among them.
func anyDeed(chance *rand.Rand, n, mark int) deed {
	switch chance.Intn(20) {
	case 0:
		return write(strange()[chance.Intn(len(strange()))], marked(mark))
	case 1:
		return write(n+chance.Intn(3), marked(mark))
	case 2:
		return write(chance.Intn(n), marked(mark)[:chance.Intn(64)])
	case 3, 4, 5:
		return flush()
	case 6:
		return fuse(chance.Intn(8) - 1)
	case 7:
		keep := make([]int, chance.Intn(n+2))
		for k := range keep {
			keep[k] = chance.Intn(9) - 2
			if chance.Intn(10) == 0 {
				keep[k] = int(chance.Uint64())
			}
		}
		return crash(keep...)
	}
	return write(chance.Intn(n), marked(mark))
}

func TestByChance(t *testing.T) {
	for seed := range int64(300) {
		chance := rand.New(rand.NewSource(9000 + seed))
		n := 1 + chance.Intn(6)
		d, p := made(t, n)
		var did []deed
		for mark := range 120 {
			x := anyDeed(chance, n, mark+1)
			did = append(did, x)
			isDone(t, d, p, x, did)
			isTold(t, d, p, did)
		}
	}
}

func TestManyBlocksByChance(t *testing.T) {
	for seed := range int64(6) {
		chance := rand.New(rand.NewSource(9500 + seed))
		n := []int{100, 1000, 4095, 4096}[seed%4]
		d, p := made(t, n)
		for mark := range 3000 {
			isDone(t, d, p, anyDeed(chance, n, mark+1), nil)
			i := chance.Intn(n+2) - 1
			isRead(t, d, p, i, nil)
		}
		isTold(t, d, p, nil)
	}
}

// What is told hangs on what was done alone: two disks to which the same befalls tell the same.
func TestTheSameAgain(t *testing.T) {
	for seed := range int64(20) {
		chance := rand.New(rand.NewSource(9700 + seed))
		n := 1 + chance.Intn(300)
		a, _ := made(t, n)
		b, _ := Of(a.Image())
		for mark := range 500 {
			x := anyDeed(chance, n, mark)
			if x.on(a) != x.on(b) || !slices.Equal(a.Waiting(), b.Waiting()) || a.Up() != b.Up() || a.Done() != b.Done() {
				t.Fatalf("%s: one tells otherwise than the other", show([]deed{x}))
			}
		}
		if !slices.Equal(texts(a.Image()), texts(b.Image())) {
			t.Fatal("they are not the same")
		}
	}
}

// Behind a crash a block has what it had at the last flush, or what one of its writes since then wrote: held without the paper.
func TestWhatABlockHasBehindACrash(t *testing.T) {
	chance := rand.New(rand.NewSource(9800))
	for range 300 {
		n := 1 + chance.Intn(5)
		d, _ := made(t, n)
		flushed := slices.Repeat([]string{full(0)}, n)
		since := make([][]string, n)
		for mark := range 60 {
			switch chance.Intn(12) {
			default:
				i := chance.Intn(n)
				if d.Write(i, []byte(marked(mark))) == api.OK {
					since[i] = append(since[i], marked(mark))
				}
			case 1:
				if d.Flush() == api.OK {
					for i, l := range since {
						if len(l) > 0 {
							flushed[i] = l[len(l)-1]
						}
					}
					since = make([][]string, n)
				}
			case 2:
				d.Fuse(chance.Intn(20))
			case 3:
				keep := make([]int, n)
				for k := range keep {
					keep[k] = chance.Intn(10) - 1
				}
				d.Crash(keep)
				for i, b := range texts(d.Image()) {
					if b != flushed[i] && !slices.Contains(since[i], b) {
						t.Fatalf("block %d has %.20q, neither %.20q nor of %.20q", i, b, flushed[i], since[i])
					}
					flushed[i] = b
				}
				since = make([][]string, n)
			}
		}
	}
}

// Each of what a block may have can be kept, whatever the others keep.
func TestAnyOfTheWritesMayBeKept(t *testing.T) {
	writes := []int{2, 0, 3, 1}
	for a := range 3 {
		for b := range 4 {
			for c := range 2 {
				d, _ := made(t, 4)
				for i, n := range writes {
					for k := range n {
						d.Write(i, []byte(marked(10*i+k+1)))
					}
				}
				d.Crash([]int{a, b, c})
				for k, i := range []int{0, 2, 3} {
					want := full(0)
					if m := []int{a, b, c}[k]; m > 0 {
						want = marked(10*i + m)
					}
					if got, _ := d.Read(i); string(got) != want {
						t.Errorf("keep %d %d %d: block %d has %.20q, want %.20q", a, b, c, i, got, want)
					}
				}
			}
		}
	}
}

func TestFlushedIsThereBehindCrashes(t *testing.T) {
	d, _ := made(t, 3)
	d.Write(0, []byte(full('a')))
	d.Write(1, []byte(full('b')))
	d.Flush()
	for n := range 20 {
		d.Write(2, []byte(marked(n)))
		d.Fuse(n % 3)
		d.Write(2, []byte(marked(n+100)))
		d.Flush()
		d.Crash([]int{n % 4, n, n})
		if got := d.Image(); string(got[0]) != full('a') || string(got[1]) != full('b') {
			t.Fatalf("behind crash %d: %q", n, got)
		}
	}
	d.Write(0, []byte(full('c')))
	d.Crash([]int{1})
	if got := d.Image(); string(got[0]) != full('c') || string(got[1]) != full('b') {
		t.Errorf("written anew: %q", got)
	}
}

func TestFuseLetsJustTheNextThrough(t *testing.T) {
	chance := rand.New(rand.NewSource(9900))
	for n := range 60 {
		d, _ := made(t, 4)
		lets(d, chance.Intn(4))
		ahead := d.Done()
		d.Fuse(n)
		for k := range n + 5 {
			d.Read(k % 4)
			d.Write(9, []byte(full('x')))
			next, want := flush(), api.OK
			if chance.Intn(2) == 0 {
				next = write(k%4, marked(k))
			}
			if k >= n {
				want = api.ErrDown
			}
			if e := next.on(d); e != want {
				t.Fatalf("a fuse of %d: of the next ones number %d is told %d, want %d", n, k, int(e), int(want))
			}
			if d.Up() != (k < n) || d.Done() != ahead+min(k+1, n) {
				t.Fatalf("a fuse of %d: behind number %d: Up %v, Done %d", n, k, d.Up(), d.Done())
			}
		}
	}
}

// Rule 5: memory

// scribble changes all bytes, also those behind the end.
func scribble(b []byte) {
	for i := range b[:cap(b)] {
		b[:cap(b)][i] ^= 0x55
	}
}

func TestWhatIsHandedInIsNotKept(t *testing.T) {
	image := imageOf(full('a'), full('b'), full('c'))
	d, _ := Of(image)
	p := paperOf(full('a'), full('b'), full('c'))
	for _, b := range image {
		scribble(b)
	}
	image[0], image[1] = nil, []byte("x")
	isTold(t, d, p, nil)
	b := make([]byte, 64) // one buffer for all writes
	for k, i := range []int{0, 1, 0, 2, 0} {
		copy(b, marked(k))
		isDone(t, d, p, write(i, marked(k)), nil)
		if e := d.Write(i, b); e != api.OK {
			t.Fatal(int(e))
		}
		p.write(i, marked(k))
		isTold(t, d, p, nil)
		scribble(b)
		isTold(t, d, p, nil)
	}
	keep := []int{3, 1, 2}
	c, q := d.Copy(), p.copy()
	isDone(t, c, q, crash(keep...), nil)
	scribble(b)
	keep[0], keep[1] = 9, 9
	isTold(t, c, q, nil)
	isDone(t, d, p, flush(), nil)
	scribble(b)
	isTold(t, d, p, nil)
}

func TestWhatIsHandedInIsNotChanged(t *testing.T) {
	wide := make([]byte, 200)
	for i := range wide {
		wide[i] = byte(i)
	}
	same := slices.Clone(wide)
	one := wide[10:74]
	image := [][]byte{one, one, one, []byte("no block"), nil}[:3] // one memory for all, more of it behind each, and more blocks behind the end
	d, e := Of(image)
	if e != api.OK || d.Blocks() != 3 {
		t.Fatalf("%d, %d blocks", int(e), d.Blocks())
	}
	d.Write(1, []byte(full('x')))
	d.Flush()
	d.Write(2, wide[100:164])
	d.Crash([]int{1})
	d.Write(2, []byte(full('y')))
	d.Write(2, []byte(full('z')))
	d.Flush()
	if !bytes.Equal(wide, same) {
		t.Errorf("what was handed in was changed: %v", wide)
	}
	if got := texts(d.Image()); !slices.Equal(got, []string{string(same[10:74]), full('x'), full('z')}) {
		t.Errorf("blocks of one memory are one block: %q", got)
	}
	keep := []int{1, 2, 1, 1}
	d.Write(0, []byte(full('p')))
	d.Write(1, []byte(full('q')))
	d.Crash(keep[:1]) // what lies behind its end is not read
	if got := d.Image(); string(got[0]) != full('p') || string(got[1]) != full('x') {
		t.Errorf("what lies behind keep's end was read: %q", got)
	}
	if !slices.Equal(keep, []int{1, 2, 1, 1}) {
		t.Errorf("keep was changed: %v", keep)
	}
	if e := d.Write(0, wide[:63]); e != api.ErrArg { // there are more bytes behind the end, but none that were handed in
		t.Errorf("Write of 63 bytes with more behind = %d", int(e))
	}
	if _, e := Of([][]byte{wide[:63]}); e != api.ErrArg {
		t.Errorf("Of 63 bytes with more behind = %d", int(e))
	}
	if _, e := Of(image[:0]); e != api.ErrArg {
		t.Errorf("Of no blocks with more behind = %d", int(e))
	}
}

func TestWhatIsToldIsNew(t *testing.T) {
	d, p := behind(t, 3, write(0, full('a')), write(1, full('b')), flush(), write(1, full('c')), write(1, full('d')), write(2, full('e')))
	for range 3 {
		for i := range 3 { // of what is durable, and of what waits
			first, _ := d.Read(i)
			second, _ := d.Read(i)
			scribble(first)
			if want, _ := p.read(i); string(second) != want {
				t.Errorf("two answers of Read(%d) share memory", i)
			}
			scribble(append(second, second...))
		}
		isTold(t, d, p, nil)
		image, again := d.Image(), d.Image()
		for i, b := range image {
			scribble(b)
			if got := texts(image[i+1:]); !slices.Equal(got, p.image()[i+1:]) {
				t.Errorf("blocks of one image share memory: %q", got)
			}
		}
		if !slices.Equal(texts(again), p.image()) {
			t.Errorf("two images share memory: %q", again)
		}
		image[0] = nil
		isTold(t, d, p, nil)
		waits, more := d.Waiting(), d.Waiting()
		for k := range waits {
			waits[k] = wait(7, 7)
		}
		if !slices.Equal(more, p.waiting()) {
			t.Errorf("two answers of Waiting share memory: %v", more)
		}
		isTold(t, d, p, nil)
		isDone(t, d, p, write(0, full('f')), nil)
	}
}

// What was told stays as it was told, whatever befalls the disk later.
func TestWhatWasToldStays(t *testing.T) {
	d, p := behind(t, 2, write(0, full('a')), flush(), write(1, full('b')))
	c, q := d.Copy(), p.copy()
	image, waits := d.Image(), d.Waiting()
	first, _ := d.Read(0)
	second, _ := d.Read(1)
	for _, x := range []deed{write(0, full('c')), write(1, full('d')), flush(), write(0, full('e')), write(1, full('f')), crash(1, 1), write(0, full('g')), flush()} {
		isDone(t, d, p, x, nil)
		if !slices.Equal(texts(image), q.image()) || !slices.Equal(waits, q.waiting()) || string(first) != full('a') || string(second) != full('b') {
			t.Fatalf("behind %s: %q, %v, %q, %q", show([]deed{x}), image, waits, first, second)
		}
		isTold(t, c, q, nil)
	}
}
