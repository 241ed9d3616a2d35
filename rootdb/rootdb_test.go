package rootdb

import (
	"crypto/sha256"
	"encoding/binary"
	"fmt"
	"maps"
	"math"
	"math/rand"
	"slices"
	"strings"
	"testing"

	"veneer/api"
	"veneer/disk"
	"veneer/kv"
	"veneer/manifest"
	"veneer/wal"
)

// long is a text of n bytes; pack a package of one layer, of many such that its layers have these sizes; stackOf the packages that are handed in.

func long(c byte, n int) string { return strings.Repeat(string([]byte{c}), n) }

func pack(owner int, name string) api.Pack { return many(owner, name, "1", 5) }

func many(owner int, name, version string, sizes ...int) api.Pack {
	p := api.Pack{Owner: owner, Man: api.Manifest{Name: name, Version: version}}
	for i, size := range sizes {
		p.Man.Layers = append(p.Man.Layers, api.Ref{Sum: sha256.Sum256([]byte(fmt.Sprint(name, " ", i))), Size: size})
	}
	return p
}

func stackOf(l ...api.Pack) []api.Pack { return l }

// ones are n packages of one layer each.
func ones(n int) []api.Pack {
	var l []api.Pack
	for i := range n {
		l = append(l, pack(1+i%8, fmt.Sprint("p", i)))
	}
	return l
}

// greatest is a stack of 16 packages whose bytes are as many as may be.
func greatest(c byte) []api.Pack {
	var l []api.Pack
	for i := range 16 {
		l = append(l, many(8, long(c, 14)+fmt.Sprintf("%02d", i), long('9', 16), math.MaxInt32))
	}
	return l
}

// errorOf is what Check must tell.
func errorOf(l []api.Pack) api.Errno {
	names, layers := map[string]bool{}, 0
	for _, p := range l {
		layers += len(p.Man.Layers)
		switch e := manifest.Check(p.Man); {
		case !slices.Contains([]int{1, 2, 3, 4, 5, 6, 7, 8}, p.Owner):
			return api.ErrArg
		case e != api.OK:
			return e
		case names[p.Man.Name]:
			return api.ErrThere
		case layers > 16:
			return api.ErrBig
		}
		names[p.Man.Name] = true
	}
	return api.OK
}

func samePack(a, b api.Pack) bool {
	return a.Owner == b.Owner && a.Man.Name == b.Man.Name && a.Man.Version == b.Man.Version && slices.Equal(a.Man.Layers, b.Man.Layers)
}

func same(a, b []api.Pack) bool { return slices.EqualFunc(a, b, samePack) }

// named is packages as a short text.
func named(l []api.Pack) string {
	var out []string
	for _, p := range l {
		out = append(out, fmt.Sprintf("%d:%s-%s(%d)", p.Owner, p.Man.Name, p.Man.Version, len(p.Man.Layers)))
	}
	return fmt.Sprint(out)
}

// has is what a root has. Its lists are not changed: what changes is another one.
type has struct {
	stack  []api.Pack
	staged int
	wants  []api.Pack
	done   []int
}

func (x has) String() string {
	return fmt.Sprintf("stack %s, staged %d %s, done %v", named(x.stack), x.staged, named(x.wants), x.done)
}

func (x has) is(y has) bool {
	return same(x.stack, y.stack) && x.staged == y.staged && same(x.wants, y.wants) && slices.Equal(x.done, y.done)
}

// The keys and values in the database, as the chapter tells them.

func eight(n uint64) string { return string(binary.BigEndian.AppendUint64(nil, n)) }

func text(s string) string { return string(binary.AppendUvarint(nil, uint64(len(s)))) + s }

func bytesOfPack(p api.Pack) string {
	out := string([]byte{byte(p.Owner)}) + "VM\x01" + text(p.Man.Name) + text(p.Man.Version) + string([]byte{byte(len(p.Man.Layers))})
	for _, x := range p.Man.Layers {
		out += string(x.Sum[:]) + string(binary.AppendUvarint(nil, uint64(x.Size)))
	}
	return out
}

func at(mark string, i int) string { return mark + string([]byte{byte(i)}) }

func putsOfPacks(mark string, l []api.Pack) []api.Put {
	var out []api.Put
	for i, p := range l {
		out = append(out, api.Put{Key: at(mark, i), Value: bytesOfPack(p)})
	}
	return out
}

func putOfStaged(txn uint64, count int) api.Put {
	return api.Put{Key: "t", Value: eight(txn) + string([]byte{byte(count)})}
}

func putOfDone(k, txn int) api.Put {
	return api.Put{Key: "c" + eight(uint64(k)), Value: eight(uint64(txn))}
}

func goneOf(l ...api.Put) []api.Put {
	var out []api.Put
	for _, p := range l {
		out = append(out, api.Put{Key: p.Key, Gone: true})
	}
	return out
}

// puts are all of what a root has, rising.
func (x has) puts() []api.Put {
	l := putsOfPacks("p", x.stack)
	if x.staged != 0 {
		l = append(l, putOfStaged(uint64(x.staged), len(x.wants)))
		l = append(l, putsOfPacks("q", x.wants)...)
	}
	for k, txn := range x.done {
		l = append(l, putOfDone(k, txn))
	}
	return slices.SortedFunc(slices.Values(l), func(a, b api.Put) int { return strings.Compare(a.Key, b.Key) })
}

// understood is what Open must make of keys and values: it looks for each fault that the chapter's words leave.
func understood(l []api.Put) (has, api.Errno) {
	stack, wants, done := map[uint64]string{}, map[uint64]string{}, map[uint64]string{}
	staged, isStaged := "", false
	for _, p := range l {
		switch {
		case len(p.Key) == 2 && p.Key[0] == 'p':
			stack[uint64(p.Key[1])] = p.Value
		case len(p.Key) == 2 && p.Key[0] == 'q':
			wants[uint64(p.Key[1])] = p.Value
		case len(p.Key) == 9 && p.Key[0] == 'c':
			done[binary.BigEndian.Uint64([]byte(p.Key[1:]))] = p.Value
		case p.Key == "t":
			staged, isStaged = p.Value, true
		default:
			return has{}, api.ErrForm
		}
	}
	var x has
	var ok [4]bool
	x.stack, ok[0] = packsIn(stack)
	x.wants, ok[1] = packsIn(wants)
	x.done, ok[2] = numbersIn(done)
	x.staged, ok[3] = stagedIn(staged, isStaged, len(x.wants))
	if ok != [4]bool{true, true, true, true} || slices.Contains(x.done, x.staged) {
		return has{}, api.ErrForm
	}
	return x, api.OK
}

func packsIn(values map[uint64]string) ([]api.Pack, bool) {
	var l []api.Pack
	for i := range len(values) {
		value, ok := values[uint64(i)]
		if !ok || len(value) == 0 {
			return nil, false
		}
		m, e := manifest.Decode([]byte(value[1:]))
		if e != api.OK {
			return nil, false
		}
		l = append(l, api.Pack{Owner: int(value[0]), Man: m})
	}
	return l, errorOf(l) == api.OK
}

func numberIn(value string) (int, bool) {
	if len(value) != 8 {
		return 0, false
	}
	n := binary.BigEndian.Uint64([]byte(value))
	return int(n), n >= 1 && n <= 1<<40
}

func numbersIn(values map[uint64]string) ([]int, bool) {
	var l []int
	for k := range len(values) {
		n, ok := numberIn(values[uint64(k)])
		if !ok || slices.Contains(l, n) {
			return nil, false
		}
		l = append(l, n)
	}
	return l, true
}

func stagedIn(value string, isStaged bool, count int) (int, bool) {
	if !isStaged {
		return 0, count == 0
	}
	if len(value) != 9 || int(value[8]) != count {
		return 0, false
	}
	return numberIn(value[:8])
}

// What is on a disk

func newDisk(t *testing.T, n int) *disk.Disk {
	t.Helper()
	d, e := disk.New(n)
	if e != api.OK {
		t.Fatalf("disk.New(%d) = %d", n, int(e))
	}
	return d
}

// durable is what a disk has behind any loss of power.
func durable(d *disk.Disk) string {
	return string(slices.Concat(d.Image()...))
}

// keysOn are the keys and values that a disk has behind a loss of power that keeps these writes.
func keysOn(d *disk.Disk, keep []int) []api.Put {
	c := d.Copy()
	c.Crash(keep)
	db, _ := kv.Open(c)
	return db.Scan("", "")
}

// shown is keys and values as a text.
func shown(l []api.Put) string {
	var out strings.Builder
	for _, p := range l {
		fmt.Fprintf(&out, " %q: %q,", p.Key, p.Value)
	}
	return out.String()
}

// looks is what a disk tells: whether it is up, how much was done, what waits, and which keys it has, whether all that waits is lost or kept. In which order a batch has its changes the chapter does not say.
func looks(d *disk.Disk) string {
	var all []int
	for _, w := range d.Waiting() {
		all = append(all, w.N)
	}
	return fmt.Sprint(d.Up(), d.Done(), d.Waiting(), shown(keysOn(d, nil)), shown(keysOn(d, all)))
}

// records counts the batches of a disk's log.
func records(d *disk.Disk) int {
	log, _ := wal.Open(d)
	return len(log.Records())
}

// laid is a disk of n blocks with a database of these keys and values.
func laid(t *testing.T, n int, l ...api.Put) *disk.Disk {
	t.Helper()
	d := newDisk(t, n)
	db, _ := kv.Open(d)
	for piece := range slices.Chunk(l, 3) { // three values of 1024 bytes go into a batch
		if e := db.Do(piece); e != api.OK {
			t.Fatalf("Do of%.200s = %d", shown(piece), int(e))
		}
	}
	return d
}

// deed is a call that writes.
type deed struct {
	name string
	txn  int
	l    []api.Pack
}

func stage(txn int, l ...api.Pack) deed { return deed{"Stage", txn, l} }

func commit(txn int) deed { return deed{"Commit", txn, nil} }

func abort(txn int) deed { return deed{"Abort", txn, nil} }

func (y deed) String() string {
	if y.name == "Stage" {
		return fmt.Sprintf("Stage %d %s", y.txn, named(y.l))
	}
	return fmt.Sprintf("%s %d", y.name, y.txn)
}

// plan is the batch that a deed has to do (none: it writes nothing) and what the root has behind it, or the error by which it is refused ahead of that.
func (y deed) plan(x has) ([]api.Put, has, api.Errno) {
	if y.txn < 1 || y.txn > 1<<40 {
		return nil, x, api.ErrArg
	}
	if e := errorOf(y.l); e != api.OK {
		return nil, x, e
	}
	isDone, isStaged := slices.Contains(x.done, y.txn), x.staged == y.txn
	refused := func(e api.Errno) ([]api.Put, has, api.Errno) { return nil, x, e }
	let := has{stack: x.stack, done: x.done}
	switch {
	case y.name == "Commit" && isDone, y.name == "Stage" && isStaged, y.name == "Abort" && !isDone && !isStaged:
		return nil, x, api.OK
	case isDone, y.name == "Commit" && !isStaged:
		return refused(api.ErrState)
	case y.name == "Stage" && x.staged != 0:
		return refused(api.ErrBusy)
	case y.name == "Stage":
		let.staged, let.wants = y.txn, slices.Clone(y.l)
		return append(putsOfPacks("q", y.l), putOfStaged(uint64(y.txn), len(y.l))), let, api.OK
	}
	batch := goneOf(append(putsOfPacks("q", x.wants), api.Put{Key: "t"})...)
	if y.name == "Commit" {
		let.stack, let.done = x.wants, append(slices.Clone(x.done), y.txn)
		batch = slices.Concat(batch, goneOf(putsOfPacks("p", x.stack)...), putsOfPacks("p", x.wants), []api.Put{putOfDone(len(x.done), y.txn)})
	}
	return batch, let, api.OK
}

// both is a root on a disk, and what it must be: what it has, and another disk, to whose database all is done by hand that the chapter asks for.
type both struct {
	d, other *disk.Disk
	b        *DB
	db       *kv.DB
	has      has
	did      string
}

// opened opens a root on a disk; nothing else has a hand on it.
func opened(t *testing.T, d *disk.Disk) *both {
	t.Helper()
	x := &both{d: d, other: d.Copy()}
	if e := x.open(t); e != api.OK {
		t.Fatalf("Open = %d", int(e))
	}
	return x
}

// run is a root on a disk of n blocks, behind these deeds.
func run(t *testing.T, n int, deeds ...deed) *both {
	t.Helper()
	x := opened(t, newDisk(t, n))
	x.must(t, deeds...)
	return x
}

// must does deeds that are not refused.
func (x *both) must(t *testing.T, deeds ...deed) {
	t.Helper()
	x.answers(t, api.OK, deeds...)
}

// answers does deeds each of which is answered by that error.
func (x *both) answers(t *testing.T, want api.Errno, deeds ...deed) {
	t.Helper()
	for _, y := range deeds {
		if e := x.do(t, y); e != want {
			t.Fatalf("the last of%.2000s answers %d, want %d", x.did, int(e), int(want))
		}
	}
}

// refuses does deeds each of which is answered by that error, and writes nothing.
func (x *both) refuses(t *testing.T, want api.Errno, deeds ...deed) {
	t.Helper()
	done, ahead := x.d.Done(), x.has
	x.answers(t, want, deeds...)
	if x.d.Done() != done || !x.has.is(ahead) {
		t.Fatalf("%v: Done %d, want %d; %v, want %v", deeds, x.d.Done(), done, x.has, ahead)
	}
}

// writesNothing does deeds that are answered OK, and write nothing.
func (x *both) writesNothing(t *testing.T, deeds ...deed) {
	t.Helper()
	x.refuses(t, api.OK, deeds...)
}

// writes does a deed that is answered OK, and fails where it does not do just so many Writes and Flushes, in one batch.
func (x *both) writes(t *testing.T, y deed, want int) {
	t.Helper()
	done, batches := x.d.Done(), records(x.d)
	x.must(t, y)
	if got := x.d.Done() - done; got != want || records(x.d) != batches+1 {
		t.Fatalf("%v: %d Writes and Flushes, want %d; %d batches", y, got, want, records(x.d)-batches)
	}
}

// open opens the root anew, and fails where it is not what the disk's database has.
func (x *both) open(t *testing.T) api.Errno {
	t.Helper()
	x.did += " Open;"
	db, want := kv.Open(x.other)
	var there has
	if want == api.OK {
		there, want = understood(db.Scan("", ""))
	}
	b, e := Open(x.d)
	if e != want || (b == nil) != (want != api.OK) {
		t.Fatalf("behind%.2000s: %v, %d, want %d", x.did, b, int(e), int(want))
	}
	if e == api.OK {
		x.b, x.db, x.has = b, db, there
		isRoot(t, b, there, "behind"+x.did)
	}
	x.isDisk(t)
	return e
}

// do does a deed, and fails where the answer, the root or the disk is not as the chapter says.
func (x *both) do(t *testing.T, y deed) api.Errno {
	t.Helper()
	x.did += " " + y.String() + ";"
	batch, next, want := y.plan(x.has)
	if batch != nil {
		want = x.db.Do(batch)
	}
	if want == api.OK {
		x.has = next
	}
	if e := call(x.b, y); e != want {
		t.Fatalf("the last of%.2000s answers %d, want %d", x.did, int(e), int(want))
	}
	isRoot(t, x.b, x.has, "behind"+x.did)
	x.isDisk(t)
	return want
}

func call(b *DB, y deed) api.Errno {
	switch y.name {
	case "Stage":
		return b.Stage(y.txn, y.l)
	case "Commit":
		return b.Commit(y.txn)
	}
	return b.Abort(y.txn)
}

func (x *both) isDisk(t *testing.T) {
	t.Helper()
	if got, want := looks(x.d), looks(x.other); got != want {
		t.Fatalf("behind%.2000s: the disk is\n%.2000s, want\n%.2000s", x.did, got, want)
	}
}

func (x *both) fuse(n int) {
	x.did += fmt.Sprintf(" Fuse %d;", n)
	x.d.Fuse(n)
	x.other.Fuse(n)
}

func (x *both) crash(keep ...int) {
	x.did += fmt.Sprintf(" Crash %v;", keep)
	x.d.Crash(keep)
	x.other.Crash(keep)
}

// told is what a root tells.
func told(b *DB) has {
	txn, wants := b.Staged()
	return has{stack: b.Stack(), staged: txn, wants: wants, done: b.Done()}
}

// isRoot fails where a root tells anything else than what it must have.
func isRoot(t *testing.T, b *DB, want has, why string) {
	t.Helper()
	if got := told(b); !got.is(want) {
		t.Fatalf("%.2000s: %v, want %v", why, got, want)
	}
}

// rightTxns are numbers of transactions, wrongTxns numbers that are none, at the edges.

func rightTxns() []int { return []int{1, 2, 7, 255, 256, 1 << 32, 1<<40 - 1, 1 << 40} }

func wrongTxns() []int {
	return []int{0, -1, -7, 1<<40 + 1, 1 << 41, 1<<40 + 7, math.MaxInt, math.MinInt, math.MinInt + 7, -(1 << 40)}
}

// P13.1: Check, Sums, Size

// wrongManifests are packages of name a that may not be by their manifest, each with manifest.Check's error.
func wrongManifests() map[string]wrongStack {
	changed := func(change func(m *api.Manifest)) []api.Pack {
		p := many(1, "a", "1", 5, 6)
		change(&p.Man)
		return stackOf(p)
	}
	return map[string]wrongStack{
		"no name":             {changed(func(m *api.Manifest) { m.Name = "" }), api.ErrArg},
		"a name of 17 bytes":  {changed(func(m *api.Manifest) { m.Name = long('a', 17) }), api.ErrArg},
		"a name in capitals":  {changed(func(m *api.Manifest) { m.Name = "A" }), api.ErrArg},
		"a name with a byte":  {changed(func(m *api.Manifest) { m.Name = "a\x00" }), api.ErrArg},
		"no version":          {changed(func(m *api.Manifest) { m.Version = "" }), api.ErrArg},
		"a version of 17":     {changed(func(m *api.Manifest) { m.Version = long('1', 17) }), api.ErrArg},
		"a version with _":    {changed(func(m *api.Manifest) { m.Version = "1_2" }), api.ErrArg},
		"no layers":           {changed(func(m *api.Manifest) { m.Layers = nil }), api.ErrNone},
		"no layers in a list": {changed(func(m *api.Manifest) { m.Layers = []api.Ref{} }), api.ErrNone},
		"9 layers":            {stackOf(many(1, "a", "1", 1, 2, 3, 4, 5, 6, 7, 8, 9)), api.ErrBig},
		"16 layers":           {stackOf(many(1, "a", "1", make([]int, 16)...)), api.ErrBig},
		"17 layers":           {stackOf(many(1, "a", "1", make([]int, 17)...)), api.ErrBig},
		"a size below 0":      {changed(func(m *api.Manifest) { m.Layers[1].Size = -1 }), api.ErrArg},
		"a size of 2^31":      {changed(func(m *api.Manifest) { m.Layers[0].Size = 1 << 31 }), api.ErrArg},
		"a digest twice":      {changed(func(m *api.Manifest) { m.Layers[1].Sum = m.Layers[0].Sum }), api.ErrThere},
		"nothing":             {stackOf(api.Pack{Owner: 1}), api.ErrArg},
	}
}

type wrongStack struct {
	l []api.Pack
	e api.Errno
}

// wrongStacks are stacks that may not be, each with Check's error.
func wrongStacks() map[string]wrongStack {
	a, eight := pack(1, "a"), make([]int, 8)
	none := api.Pack{Owner: 1, Man: api.Manifest{Name: "n", Version: "1"}} // without layers
	nobody := many(0, "b", "1", eight...)
	nine := many(1, "a", "1", make([]int, 9)...)
	out := wrongManifests()
	for name, x := range wrongManifests() { // also behind one that may be
		out[name+", the second"] = wrongStack{append(stackOf(pack(2, "b")), x.l...), x.e}
		out[name+", ahead of one of its name"] = wrongStack{append(slices.Clone(x.l), a, a), x.e}
	}
	maps.Copy(out, map[string]wrongStack{
		"an owner 0":                     {stackOf(pack(0, "a")), api.ErrArg},
		"an owner 9":                     {stackOf(pack(9, "a")), api.ErrArg},
		"an owner -1":                    {stackOf(pack(-1, "a")), api.ErrArg},
		"an owner 257":                   {stackOf(pack(257, "a")), api.ErrArg},
		"the greatest owner":             {stackOf(pack(math.MaxInt, "a")), api.ErrArg},
		"the least owner":                {stackOf(pack(math.MinInt, "a")), api.ErrArg},
		"the second has no owner":        {stackOf(a, pack(0, "b")), api.ErrArg},
		"the last of 16 has no owner":    {append(ones(15), pack(9, "b")), api.ErrArg},
		"a zero package":                 {stackOf(api.Pack{}), api.ErrArg},
		"a name twice":                   {stackOf(a, many(2, "a", "2", 1)), api.ErrThere},
		"a package twice":                {stackOf(a, a), api.ErrThere},
		"a name ahead of another one":    {stackOf(a, pack(2, "b"), many(3, "a", "3", 1)), api.ErrThere},
		"the name of the second":         {stackOf(pack(2, "b"), a, a), api.ErrThere},
		"17 packages":                    {ones(17), api.ErrBig},
		"18 packages":                    {ones(18), api.ErrBig},
		"8, 8 and 1 layers":              {stackOf(many(1, "a", "1", eight...), many(1, "b", "1", eight...), pack(1, "c")), api.ErrBig},
		"1, 8 and 8 layers":              {stackOf(pack(1, "c"), many(1, "a", "1", eight...), many(1, "b", "1", eight...)), api.ErrBig},
		"6, 6 and 6 layers":              {stackOf(many(1, "a", "1", eight[2:]...), many(2, "b", "1", eight[2:]...), many(3, "c", "1", eight[2:]...)), api.ErrBig},
		"9 layers and 9":                 {stackOf(nine, many(1, "b", "1", make([]int, 9)...)), api.ErrBig},
		"no owner, and no layers":        {stackOf(api.Pack{Man: none.Man}), api.ErrArg},
		"no owner, and 9 layers":         {stackOf(many(9, "a", "1", make([]int, 9)...)), api.ErrArg},
		"no owner, and a name twice":     {stackOf(a, pack(0, "a")), api.ErrArg},
		"no owner, and 17 layers":        {append(ones(16), pack(0, "b")), api.ErrArg},
		"no layers, and a name twice":    {stackOf(pack(1, "n"), none), api.ErrNone},
		"9 layers, and a name twice":     {stackOf(a, nine), api.ErrBig},
		"a digest twice, and 17 layers":  {append(ones(15), api.Pack{Owner: 1, Man: api.Manifest{Name: "b", Version: "1", Layers: make([]api.Ref, 2)}}), api.ErrThere},
		"no version, and 17 layers":      {append(ones(16), many(1, "b", "", 1)), api.ErrArg},
		"a name twice, and 17 layers":    {append(ones(16), pack(1, "p0")), api.ErrThere},
		"no layers, then no owner":       {stackOf(none, nobody), api.ErrNone},
		"no owner, then no layers":       {stackOf(nobody, none), api.ErrArg},
		"a name twice, then no layers":   {stackOf(a, a, none), api.ErrThere},
		"no layers, then a name twice":   {stackOf(a, none, a), api.ErrNone},
		"17 layers, then no owner":       {append(ones(17), nobody), api.ErrBig},
		"17 layers, then no layers":      {append(ones(17), none), api.ErrBig},
		"17 layers, then a name twice":   {append(ones(17), pack(1, "p0")), api.ErrBig},
		"no owner, then 17 layers":       {append(stackOf(nobody), ones(17)...), api.ErrArg},
		"a digest twice, then no layers": {stackOf(api.Pack{Owner: 1, Man: api.Manifest{Name: "b", Version: "1", Layers: make([]api.Ref, 2)}}, none), api.ErrThere},
	})
	return out
}

// rightStacks are stacks that may be, at the edges that the chapter names.
func rightStacks() [][]api.Pack {
	eight := make([]int, 8)
	twin := pack(2, "b")
	twin.Man.Layers = pack(1, "a").Man.Layers
	return [][]api.Pack{
		nil, {}, {pack(1, "a")}, {pack(8, "a")}, {many(4, long('z', 16), long('-', 16), 0, math.MaxInt32)}, {many(1, ".", "-", eight...)},
		{pack(1, "a"), pack(1, "b")}, {pack(2, "b"), pack(1, "a")}, {pack(1, "a"), twin}, {many(3, "a", "b", 1), many(3, "b", "a", 1)},
		{many(1, "a", "1", eight...), many(2, "b", "1", eight...)}, {many(1, "a", "1", eight...), many(1, "b", "1", eight[1:]...), pack(8, "c")},
		ones(15), ones(16), greatest('x'),
	}
}

func TestCheckOfWhatMayBe(t *testing.T) {
	for _, l := range rightStacks() {
		if e := Check(l); e != api.OK {
			t.Errorf("Check of %s = %d", named(l), int(e))
		}
	}
	for owner := -3; owner < 300; owner++ {
		want := api.OK
		if owner < 1 || owner > 8 {
			want = api.ErrArg
		}
		if e := Check(stackOf(pack(owner, "a"))); e != want {
			t.Errorf("of an owner %d: %d, want %d", owner, int(e), int(want))
		}
	}
}

func TestCheckOfWhatMayNot(t *testing.T) {
	for name, x := range wrongStacks() {
		if e := Check(x.l); e != x.e {
			t.Errorf("%s: %d, want %d", name, int(e), int(x.e))
		}
	}
}

// Layers of one package, and over two and three.
func TestCheckOfManyLayers(t *testing.T) {
	for i := range 10 {
		for k := range 10 {
			for n := range 10 {
				l := stackOf(many(1, "a", "1", make([]int, i)...), many(2, "b", "1", make([]int, k)...), many(3, "c", "1", make([]int, n)...))
				want := api.OK
				switch { // package by package
				case i == 0:
					want = api.ErrNone
				case i > 8:
					want = api.ErrBig
				case k == 0:
					want = api.ErrNone
				case k > 8:
					want = api.ErrBig
				case n == 0:
					want = api.ErrNone
				case n > 8 || i+k+n > 16:
					want = api.ErrBig
				}
				if e := Check(l); e != want {
					t.Fatalf("of %d, %d and %d layers: %d, want %d", i, k, n, int(e), int(want))
				}
			}
		}
	}
}

// All lists of up to three packages out of some, right ones and wrong ones.
func TestCheckOfAllShortLists(t *testing.T) {
	some := stackOf(
		pack(1, "a"), many(2, "a", "2", 1, 2), pack(8, "b"), pack(0, "a"), pack(9, "c"), pack(3, "A"), many(1, "b", "", 1), many(1, "c", "1"), many(0, "c", "1"),
		many(1, "a", "1", make([]int, 8)...), many(1, "b", "1", make([]int, 8)...), many(1, "c", "1", make([]int, 9)...), many(1, "b", "1", -1), api.Pack{},
		api.Pack{Owner: 1, Man: api.Manifest{Name: "b", Version: "1", Layers: make([]api.Ref, 2)}})
	told := map[api.Errno]int{}
	var from func(l []api.Pack)
	from = func(l []api.Pack) {
		want := errorOf(l)
		told[want]++
		if e := Check(l); e != want {
			t.Fatalf("%v: %d, want %d", l, int(e), int(want))
		}
		for _, p := range some {
			if len(l) < 3 {
				from(append(slices.Clone(l), p))
			}
		}
	}
	from(nil)
	for _, e := range []api.Errno{api.OK, api.ErrArg, api.ErrNone, api.ErrThere, api.ErrBig} {
		if told[e] < 10 {
			t.Errorf("%d came %d times", int(e), told[e])
		}
	}
}

func TestSums(t *testing.T) {
	x, y, z := api.Digest{1}, api.Digest{2}, api.Digest{3}
	ref := func(l ...api.Digest) api.Manifest {
		var m api.Manifest
		for _, s := range l {
			m.Layers = append(m.Layers, api.Ref{Sum: s})
		}
		return m
	}
	for _, c := range []struct {
		l    []api.Pack
		want []api.Digest
	}{
		{nil, nil}, {[]api.Pack{}, nil}, {stackOf(api.Pack{}), nil}, {stackOf(api.Pack{}, api.Pack{}), nil},
		{stackOf(api.Pack{Man: ref(y, x)}), []api.Digest{y, x}},
		{stackOf(api.Pack{Man: ref(x, x, z)}, api.Pack{}, api.Pack{Owner: 77, Man: ref(z, x)}), []api.Digest{x, x, z, z, x}},
		{stackOf(api.Pack{Man: ref(slices.Repeat([]api.Digest{x, y}, 20)...)}, api.Pack{Man: ref(z)}), append(slices.Repeat([]api.Digest{x, y}, 20), z)},
	} {
		if got := Sums(c.l); !slices.Equal(got, c.want) {
			t.Errorf("Sums of %v = %x, want %x", c.l, got, c.want)
		}
	}
	l := stackOf(many(1, "a", "1", 5, 6), many(2, "b", "1", 7))
	if got := Sums(l); !slices.Equal(got, []api.Digest{sha256.Sum256([]byte("a 0")), sha256.Sum256([]byte("a 1")), sha256.Sum256([]byte("b 0"))}) {
		t.Errorf("%x", got)
	}
	if got := Sums(ones(1000)); len(got) != 1000 || got[999] != sha256.Sum256([]byte("p999 0")) {
		t.Errorf("%d", len(got))
	}
}

func TestSize(t *testing.T) {
	l := stackOf(many(1, "a", "1", 5, 6), many(2, "b", "1", 7), many(1, "c", "1", 100), many(8, "d", "1", 0, math.MaxInt32, math.MaxInt32))
	odd := stackOf( // of which no stack may be made
		pack(0, "a"), many(0, "b", "1", 6), many(9, "c", "1", 7), many(-1, "d", "1", 8), many(math.MaxInt, "e", "1", 9), many(1, "a", "1", 10), many(1, "a", "1", 20),
		many(1, "A", "1", 1000), many(1, "b", "1"), many(1, "c", "1", 1000, -1), many(1, "d", "1", make([]int, 9)...), many(1, "e", "1", 1000, 1<<31), many(1, "f", "", 1000),
		api.Pack{Owner: 1, Man: api.Manifest{Name: "g", Version: "1", Layers: []api.Ref{{Size: 1000}, {Size: 1000}}}})
	for _, c := range []struct {
		l           []api.Pack
		owner, want int
	}{
		{nil, 1, 0}, {nil, 0, 0}, {l, 1, 111}, {l, 2, 7}, {l, 8, 2 * math.MaxInt32}, {l, 3, 0}, {l, 0, 0}, {l, 9, 0}, {l, -1, 0}, {l, 257, 0}, {l, math.MaxInt, 0}, {l, math.MinInt, 0},
		{odd, 1, 30}, {odd, 0, 11}, {odd, 9, 7}, {odd, -1, 8}, {odd, math.MaxInt, 9}, {odd, 2, 0}, {stackOf(api.Pack{}), 0, 0},
		{slices.Repeat(stackOf(many(1, "a", "1", slices.Repeat([]int{math.MaxInt32}, 8)...)), 3000), 1, 3000 * 8 * math.MaxInt32},
	} {
		if got := Size(c.l, c.owner); got != c.want {
			t.Errorf("Size of %.200s for %d = %d, want %d", named(c.l), c.owner, got, c.want)
		}
	}
}

// P13.2: Open

// isRefused fails where a disk is not refused by that error, or where anything is written.
func isRefused(t *testing.T, d *disk.Disk, want api.Errno) {
	t.Helper()
	ahead := fmt.Sprint(d.Up(), d.Done(), d.Waiting(), d.Image())
	for range 2 {
		if b, e := Open(d); b != nil || e != want {
			t.Fatalf("Open of%.2000s = %v, %d, want %d", shown(keysOn(d, nil)), b, int(e), int(want))
		}
	}
	if now := fmt.Sprint(d.Up(), d.Done(), d.Waiting(), d.Image()); now != ahead {
		t.Fatalf("Open changed the disk: %.1000s, want %.1000s", now, ahead)
	}
}

func TestOpenOfNoDisk(t *testing.T) {
	refused, _ := disk.New(0)
	for _, d := range []*disk.Disk{nil, {}, new(disk.Disk), refused} {
		for range 2 {
			if b, e := Open(d); b != nil || e != api.ErrNil {
				t.Fatalf("Open = %v, %d", b, int(e))
			}
		}
	}
}

func TestOpenOfADiskThatIsDown(t *testing.T) {
	for _, d := range []*disk.Disk{newDisk(t, 1), newDisk(t, 6), newDisk(t, 20), laid(t, 20, has{staged: 7}.puts()...), laid(t, 20, api.Put{Key: "x"})} {
		d.Fuse(0)
		d.Flush()
		isRefused(t, d, api.ErrDown)
	}
}

func TestOpenOfTooFewBlocks(t *testing.T) {
	for n := 1; n <= 5; n++ {
		isRefused(t, newDisk(t, n), api.ErrArg)
	}
	opened(t, newDisk(t, 6))
}

func TestOpenOfNoughts(t *testing.T) {
	for _, n := range []int{6, 7, 200, 4096} {
		x := opened(t, newDisk(t, n))
		if x.d.Done() != 2 || !x.has.is(has{}) { // what kv.Open does
			t.Errorf("%v, Done %d", x.has, x.d.Done())
		}
		x.open(t)
		if x.d.Done() != 2 {
			t.Errorf("Done %d", x.d.Done())
		}
	}
}

// The errors of the log and of the database are told ahead of all others.
func TestOpenOfNoDatabase(t *testing.T) {
	torn := laid(t, 20, api.Put{Key: "x"}).Image()
	torn[2][9]++
	d, _ := disk.Of(torn)
	isRefused(t, d, api.ErrSum)
	d, _ = disk.Of(slices.Repeat([][]byte{[]byte(long('x', 64))}, 8))
	isRefused(t, d, api.ErrSum)
	for _, l := range [][]api.Put{nil, has{staged: 7}.puts(), {{Key: "x"}}} {
		d = laid(t, 20, l...)
		log, _ := wal.Open(d)
		log.Add("no batch")
		log.Sync()
		isRefused(t, d, api.ErrForm)
	}
}

// rights are roots that may be, at the edges that the chapter names.
func rights() []has {
	out := []has{{}, {done: []int{7, 3, 1 << 40, 1}}, {staged: 7}, {staged: 1, done: []int{2}}, {staged: 1 << 40, done: []int{1, 7}}}
	var row []int
	for i := range 300 { // places of two bytes
		row = append(row, 1000-i)
	}
	out = append(out, has{done: row}, has{done: row, staged: 1001, stack: ones(16), wants: ones(16)})
	for _, txn := range rightTxns() {
		out = append(out, has{staged: txn, wants: ones(2)}, has{done: []int{txn}, stack: ones(2)})
	}
	for i, l := range rightStacks() {
		out = append(out, has{stack: l}, has{stack: l, done: []int{9}}, has{staged: 7, wants: l}, has{stack: l, staged: 7, wants: rightStacks()[(i+5)%len(rightStacks())], done: []int{8, 9}})
	}
	return out
}

func TestOpenOfWhatMayBe(t *testing.T) {
	for _, want := range rights() {
		d := laid(t, 1000, want.puts()...)
		done := d.Done()
		b, e := Open(d)
		if e != api.OK || d.Done() != done {
			t.Fatalf("%v: %d, Done %d, want %d", want, int(e), d.Done(), done)
		}
		isRoot(t, b, want, "Open")
		x := opened(t, d) // and it can be gone on with
		if want.staged != 0 {
			x.must(t, commit(want.staged))
		}
		x.must(t, stage(1<<40-3, pack(3, "more")), abort(1<<40-3), stage(1<<40-2, ones(3)...), commit(1<<40-2))
		x.open(t)
	}
}

func TestOpenByHand(t *testing.T) {
	x, y := long('x', 32), long('y', 32)
	d := laid(t, 40,
		api.Put{Key: "c\x00\x00\x00\x00\x00\x00\x00\x00", Value: "\x00\x00\x01\x00\x00\x00\x00\x00"},
		api.Put{Key: "c\x00\x00\x00\x00\x00\x00\x00\x01", Value: "\x00\x00\x00\x00\x00\x00\x01\x02"},
		api.Put{Key: "p\x00", Value: "\x02VM\x01\x03img\x011\x02" + x + "\x05" + y + "\x80\x02"},
		api.Put{Key: "p\x01", Value: "\x08VM\x01\x01b\x0210\x01" + x + "\x00"},
		api.Put{Key: "q\x00", Value: "\x01VM\x01\x01b\x0211\x01" + y + "\x07"},
		api.Put{Key: "t", Value: "\x00\x00\x00\x00\x00\x00\x00\x07\x01"})
	b, e := Open(d)
	if e != api.OK {
		t.Fatal(int(e))
	}
	sumX, sumY := api.Digest([]byte(x)), api.Digest([]byte(y))
	isRoot(t, b, has{
		stack: stackOf(
			api.Pack{Owner: 2, Man: api.Manifest{Name: "img", Version: "1", Layers: []api.Ref{{Sum: sumX, Size: 5}, {Sum: sumY, Size: 256}}}},
			api.Pack{Owner: 8, Man: api.Manifest{Name: "b", Version: "10", Layers: []api.Ref{{Sum: sumX}}}}),
		staged: 7,
		wants:  stackOf(api.Pack{Owner: 1, Man: api.Manifest{Name: "b", Version: "11", Layers: []api.Ref{{Sum: sumY, Size: 7}}}}),
		done:   []int{1 << 40, 258},
	}, "Open")
}

// goodForWrongs is a root that may be; wrongPuts are what its database has beside that, and must not: keys with a value take the place of those that were there, those that are Gone go.

func goodForWrongs() has {
	return has{stack: stackOf(pack(1, "a"), many(2, "b", "1", 6, 7)), staged: 8, wants: stackOf(pack(3, "c"), pack(1, "a")), done: []int{7, 9}}
}

func wrongPuts() map[string][]api.Put {
	one := func(key, value string) []api.Put { return []api.Put{{Key: key, Value: value}} }
	gone := func(keys ...string) []api.Put {
		var l []api.Put
		for _, key := range keys {
			l = append(l, api.Put{Key: key, Gone: true})
		}
		return l
	}
	place := func(k uint64) string { return "c" + eight(k) }
	staged := func(txn uint64, count int) []api.Put { return []api.Put{putOfStaged(txn, count)} }
	c, q := bytesOfPack(pack(3, "c")), bytesOfPack(pack(1, "q"))
	out := map[string][]api.Put{
		"a key of no mark":                       one("x", ""),
		"a byte 0":                               one("\x00", ""),
		"another mark, and a place":              one("r\x00", c),
		"a mark in capitals":                     one("P\x00", c),
		"the mark of the stack alone":            one("p", ""),
		"the mark of the stack alone, a package": one("p", q),
		"the mark of what is staged alone":       one("q", q),
		"the mark of what was committed alone":   one("c", eight(5)),
		"two marks of the staged one":            one("tt", eight(8)+"\x02"),
		"the mark of the staged one, and a byte": one("t\x00", eight(8)+"\x02"),
		"a place of two bytes in the stack":      one("p\x00\x02", q),
		"a place of two bytes, 0 and 0":          one("p\x00\x00", q),
		"a place of two bytes in what is staged": one("q\x01\x00", q),
		"a gap in the stack":                     one("p\x03", q),
		"a great gap in the stack":               one("p\xff", q),
		"no first of the stack":                  gone("p\x00"),
		"a gap in what is staged":                append(one("q\x03", q), staged(8, 3)...),
		"a gap in it, and a count of 4":          append(one("q\x03", q), staged(8, 4)...),
		"no first of what is staged":             append(gone("q\x00"), staged(8, 1)...),
		"no first of it, and a count of 2":       gone("q\x00"),
		"a gap in what was committed":            one(place(3), eight(5)),
		"no first one that was committed":        gone(place(0)),
		"a place of 256":                         one(place(256), eight(5)),
		"a place of 2^63":                        one(place(1<<63), eight(5)),
		"a place of 2^63 + 2":                    one(place(1<<63+2), eight(5)),
		"a place of 2^64 - 1":                    one(place(math.MaxUint64), eight(5)),
		"a place of 7 bytes":                     one(place(2)[:8], eight(5)),
		"a place of 7 bytes, the last ones":      one("c"+eight(2)[1:], eight(5)),
		"a place of 9 bytes":                     one(place(2)+"\x00", eight(5)),
		"a place of one byte":                    one("c\x02", eight(5)),
		"a package of no bytes":                  one("p\x00", ""),
		"a package of no bytes behind":           one("p\x02", ""),
		"a package of an owner alone":            one("p\x01", "\x02"),
		"a package without its owner":            one("p\x01", c[1:]),
		"a package that is cut off":              one("p\x01", q[:len(q)-1]),
		"a package that is cut in two":           one("p\x01", q[:len(q)/2]),
		"a package with a byte more":             one("p\x01", q+"\x00"),
		"a package twice in one value":           one("p\x01", q+q[1:]),
		"a package of an owner 0":                one("p\x01", "\x00"+q[1:]),
		"a package of an owner 9":                one("p\x01", "\x09"+q[1:]),
		"a package of an owner 255":              one("p\x01", "\xff"+q[1:]),
		"a staged one of no bytes":               one("q\x00", ""),
		"a staged one that is cut off":           one("q\x00", q[:len(q)-1]),
		"a staged one with a byte more":          one("q\x00", q+"\x00"),
		"a staged one of an owner 0":             one("q\x00", "\x00"+q[1:]),
		"a staged one of an owner 9":             one("q\x01", "\x09"+q[1:]),
		"a size in a longer form":                one("p\x01", q[:len(q)-1]+"\x85\x00"),
		"another letter ahead":                   one("p\x01", strings.Replace(q, "VM", "VN", 1)),
		"a name of no name":                      one("p\x01", strings.Replace(q, "\x01q", "\x01Q", 1)),
		"no packages of the staged one":          gone("q\x00", "q\x01"),
		"one package less":                       gone("q\x01"),
		"one package more":                       one("q\x02", q),
		"a count of 0":                           staged(8, 0),
		"a count of 1":                           staged(8, 1),
		"a count of 3":                           staged(8, 3),
		"a count of 255":                         staged(8, 255),
		"no staged number":                       gone("t"),
		"no staged number, one package":          gone("t", "q\x01"),
		"a staged number of no bytes":            one("t", ""),
		"a staged number of a byte":              one("t", "\x08"),
		"a staged number without its count":      one("t", eight(8)),
		"a staged number of 7 bytes":             one("t", eight(8)[1:]+"\x02"),
		"a staged number with a byte more":       one("t", eight(8)+"\x02\x00"),
		"a staged number with its count twice":   one("t", eight(8)+"\x02\x02"),
		"a staged number of 0":                   staged(0, 2),
		"a staged number of 0 without packages":  append(gone("q\x00", "q\x01"), staged(0, 0)...),
		"a staged number of 2^40 + 1":            staged(1<<40+1, 2),
		"a staged number of 2^63":                staged(1<<63, 2),
		"a staged number of 2^63 + 8":            staged(1<<63+8, 2),
		"a staged number of 2^64 - 1":            staged(math.MaxUint64, 2),
		"a staged number that is committed":      staged(7, 2),
		"the last one that is committed":         staged(9, 2),
		"one that is staged is committed":        one(place(2), eight(8)),
		"a committed number of 0":                one(place(1), eight(0)),
		"a committed number of 2^40 + 1":         one(place(0), eight(1<<40+1)),
		"a committed number of 2^63":             one(place(0), eight(1<<63)),
		"a committed number of 2^63 + 7":         one(place(0), eight(1<<63+7)),
		"a committed number of 2^64 - 1":         one(place(2), eight(math.MaxUint64)),
		"a committed number twice":               one(place(1), eight(7)),
		"a committed number again":               one(place(2), eight(7)),
		"a committed number of no bytes":         one(place(2), ""),
		"a committed number of 7 bytes":          one(place(2), eight(5)[1:]),
		"a committed number of 9 bytes":          one(place(2), eight(5)+"\x00"),
		"a committed number of two":              one(place(2), eight(5)+eight(6)),
	}
	return out
}

func TestOpenOfAnotherForm(t *testing.T) {
	good := goodForWrongs().puts()
	opened(t, laid(t, 200, good...))
	for name, wrong := range wrongPuts() {
		for _, l := range [][]api.Put{slices.Concat(good, wrong), slices.Concat(wrong, good, wrong)} {
			d := laid(t, 200, l...)
			if _, e := understood(keysOn(d, nil)); e != api.ErrForm {
				t.Fatalf("%s: %d", name, int(e))
			}
			if b, e := Open(d); b != nil || e != api.ErrForm {
				t.Errorf("%s: %v, %d", name, b, int(e))
			}
			isRefused(t, d, api.ErrForm)
		}
	}
	for _, p := range append(good, api.Put{Key: "x"}) { // each alone
		d := laid(t, 200, p)
		if _, e := understood([]api.Put{p}); e != api.OK {
			isRefused(t, d, api.ErrForm)
		} else {
			opened(t, d)
		}
	}
}

// Stacks that may not be: those of which there are bytes have them there, whoever wrote these.
func TestOpenOfStacksThatMayNotBe(t *testing.T) {
	tried := 0
	for name, x := range wrongStacks() {
		if slices.ContainsFunc(x.l, func(p api.Pack) bool { return p.Owner < 0 || p.Owner > 255 }) {
			continue
		}
		for _, y := range []has{{stack: x.l}, {staged: 7, wants: x.l}, {staged: 7, stack: ones(2), wants: x.l, done: []int{9}}, {staged: 7, stack: x.l, wants: ones(2), done: []int{9}}} {
			tried++
			d := laid(t, 400, y.puts()...)
			if b, e := Open(d); b != nil || e != api.ErrForm {
				t.Errorf("%s: %v, %d", name, b, int(e))
			}
			isRefused(t, d, api.ErrForm)
		}
	}
	if tried < 200 {
		t.Errorf("%d", tried)
	}
	for _, n := range []int{17, 64, 256} { // as many as a place has numbers
		isRefused(t, laid(t, 1000, has{stack: ones(n)}.puts()...), api.ErrForm)
		isRefused(t, laid(t, 1000, has{staged: 7, wants: ones(n)}.puts()...), api.ErrForm)
	}
}

// Each key of a root goes, or it or its value is changed at some place, cut, or lengthened: what Open answers is held against a search for each fault.
func TestOpenOfChangedKeys(t *testing.T) {
	told := map[api.Errno]int{}
	for _, x := range []has{goodForWrongs(), {stack: ones(1), done: []int{1 << 40, 1}}, {staged: 1}} {
		good := x.puts()
		for i, p := range good {
			rest := slices.Delete(slices.Clone(good), i, i+1)
			told[opensAs(t, rest)]++
			for at := range len(p.Key) {
				for c := range 256 {
					if at > 0 && c&(c-1) != 0 { // of its mark all changes, of others one bit
						continue
					}
					key := []byte(p.Key)
					key[at] ^= byte(c)
					told[opensAs(t, append(slices.Clone(rest), api.Put{Key: string(key), Value: p.Value}))]++
					told[opensAs(t, append(slices.Clone(good), api.Put{Key: string(key), Value: p.Value}))]++
				}
				told[opensAs(t, append(slices.Clone(rest), api.Put{Key: p.Key[:at+1], Value: p.Value}))]++
			}
			for _, value := range changedValues(p.Value) {
				told[opensAs(t, append(slices.Clone(rest), api.Put{Key: p.Key, Value: value}))]++
				told[opensAs(t, append(slices.Clone(good), api.Put{Key: p.Key + "\x00", Value: value}))]++
			}
		}
	}
	if told[api.OK] < 200 || told[api.ErrForm] < 2000 {
		t.Errorf("%v", told)
	}
}

func changedValues(s string) []string {
	out := []string{"", s + "\x00", s + s, "\x80" + s}
	for at := range len(s) {
		for _, c := range []byte{1, 2, 8, 128, 255} {
			b := []byte(s)
			b[at] ^= c
			out = append(out, string(b))
		}
		out = append(out, s[:at])
	}
	return out
}

// opensAs fails where Open makes anything else of keys and values than understood does. Later ones of a key take the place of those ahead.
func opensAs(t *testing.T, l []api.Put) api.Errno {
	t.Helper()
	d := laid(t, 60, l...)
	want, e := understood(keysOn(d, nil))
	b, err := Open(d)
	if err != e || (b == nil) != (e != api.OK) {
		t.Fatalf("%.3000s: %v, %d, want %d", shown(keysOn(d, nil)), b, int(err), int(e))
	}
	if e == api.OK {
		isRoot(t, b, want, "Open")
	}
	return e
}

func TestOpenByChance(t *testing.T) {
	chance := rand.New(rand.NewSource(13))
	told := map[api.Errno]int{}
	for range 5000 {
		l := anyHas(chance).puts()
		for range chance.Intn(3) {
			l = spoilt(chance, l)
		}
		told[opensAs(t, l)]++
	}
	if told[api.OK] < 1000 || told[api.ErrForm] < 1000 {
		t.Errorf("%v", told)
	}
}

func anyHas(chance *rand.Rand) has {
	stacks := [][]api.Pack{nil, ones(1), ones(2), ones(3), {many(8, "x", "2", 1, 2, 300), pack(2, "p0")}}
	x := has{stack: stacks[chance.Intn(5)]}
	for _, n := range chance.Perm(6)[:chance.Intn(6)] {
		x.done = append(x.done, 1+n)
	}
	if chance.Intn(2) == 0 {
		x.staged, x.wants = 7, stacks[chance.Intn(5)]
	}
	return x
}

// spoilt changes one key, or its value, in one place.
func spoilt(chance *rand.Rand, l []api.Put) []api.Put {
	if len(l) == 0 {
		return []api.Put{{Key: []string{"x", "p", "q\x00", "t", "c"}[chance.Intn(5)]}}
	}
	i := chance.Intn(len(l))
	p := &l[i]
	text := &p.Value
	if chance.Intn(2) == 0 {
		text = &p.Key
	}
	b := []byte(*text)
	switch at := chance.Intn(len(b) + 1); {
	case chance.Intn(5) == 0:
		return slices.Delete(l, i, i+1)
	case at == len(b) || chance.Intn(5) == 0:
		b = slices.Insert(b, at, byte(chance.Intn(256)))
	case chance.Intn(4) == 0 && len(b) > 1:
		b = slices.Delete(b, at, at+1)
	default:
		b[at] ^= 1 << chance.Intn(8)
	}
	*text = string(b)
	return l
}

// P13.3: Stage

func TestTheExample(t *testing.T) {
	b, _ := Open(newDisk(t, 100))
	l := stackOf(pack(1, "a"), pack(2, "b"))
	for i, step := range []struct {
		y    deed
		want api.Errno
	}{
		{stage(7, l...), api.OK}, {stage(8), api.ErrBusy}, {commit(8), api.ErrState}, {commit(7), api.OK}, {commit(7), api.OK}, {abort(7), api.ErrState}, {stage(7, l...), api.ErrState},
	} {
		if e := call(b, step.y); e != step.want {
			t.Fatalf("%d: %v = %d, want %d", i, step.y, int(e), int(step.want))
		}
	}
	isRoot(t, b, has{stack: l, done: []int{7}}, "behind it")
}

// How many Writes and Flushes each call does: the blocks of its batch's frame, a flush, a head, a flush.
func TestByHand(t *testing.T) {
	x := opened(t, newDisk(t, 200))
	a, b := pack(1, "a"), many(2, "b", "10", 300)
	x.writes(t, stage(258, a), 2+3) // 69 bytes from 0 on
	if got, want := keysOn(x.d, nil), []api.Put{{Key: "q\x00", Value: "\x01VM\x01\x01a\x011\x01" + string(a.Man.Layers[0].Sum[:]) + "\x05"}, {Key: "t", Value: "\x00\x00\x00\x00\x00\x00\x01\x02\x01"}}; !slices.Equal(got, want) {
		t.Fatalf("%s, want %s", shown(got), shown(want))
	}
	x.writes(t, commit(258), 2+3) // 83 bytes from 69 on: of the second block, and the third
	if got, want := keysOn(x.d, nil), []api.Put{{Key: "c\x00\x00\x00\x00\x00\x00\x00\x00", Value: "\x00\x00\x00\x00\x00\x00\x01\x02"}, {Key: "p\x00", Value: "\x01VM\x01\x01a\x011\x01" + string(a.Man.Layers[0].Sum[:]) + "\x05"}}; !slices.Equal(got, want) {
		t.Fatalf("%s, want %s", shown(got), shown(want))
	}
	x.writes(t, stage(7, a, b), 3+3) // 118 bytes from 152 on
	x.writes(t, abort(7), 1+3)       // 20 bytes from 270 on
	x.writes(t, stage(7), 1+3)       // 22 bytes from 290 on
	x.writes(t, abort(7), 2+3)       // 12 bytes from 312 on
	x.writes(t, stage(1<<40), 1+3)   // 22 bytes from 324 on
	x.writes(t, commit(1<<40), 1+3)  // 36 bytes from 346 on: what it had goes, and nothing comes
	x.open(t)
}

func TestStageOfEachTxn(t *testing.T) {
	x := opened(t, newDisk(t, 400))
	for _, txn := range wrongTxns() {
		x.refuses(t, api.ErrArg, stage(txn), stage(txn, pack(1, "a")), stage(txn, pack(0, "a")), stage(txn, ones(17)...), commit(txn), abort(txn))
	}
	for i, txn := range rightTxns() {
		x.must(t, stage(txn, ones(i)...))
		x.open(t)
		if got, l := x.b.Staged(); got != txn || !same(l, ones(i)) {
			t.Fatalf("%d, %s", got, named(l))
		}
		for _, txn := range wrongTxns() {
			x.refuses(t, api.ErrArg, stage(txn), commit(txn), abort(txn))
		}
		x.must(t, abort(txn), stage(txn, ones(i+1)...), commit(txn))
		x.open(t)
	}
	for _, txn := range wrongTxns() {
		x.refuses(t, api.ErrArg, stage(txn), commit(txn), abort(txn))
	}
	if got := x.b.Done(); !slices.Equal(got, rightTxns()) {
		t.Errorf("%v", got)
	}
}

func TestStageOfEachStack(t *testing.T) {
	x := opened(t, newDisk(t, 400))
	for i, l := range rightStacks() {
		x.must(t, stage(1+i, l...))
		x.open(t)
		x.must(t, abort(1+i))
		x.must(t, stage(1+i, l...), commit(1+i))
		x.open(t)
		if !same(x.b.Stack(), l) {
			t.Fatalf("%s, want %s", named(x.b.Stack()), named(l))
		}
	}
}

// What is wrong with a stack is told ahead of whatever else is.
func TestStageOfStacksThatMayNotBe(t *testing.T) {
	nobody := run(t, 100, stage(9, pack(1, "a")), commit(9))
	other := run(t, 100, stage(9, pack(1, "a")), commit(9), stage(7, pack(2, "b")))
	small := run(t, 6, stage(9), commit(9))
	for _, x := range wrongStacks() {
		for _, y := range []*both{nobody, other, small} {
			for _, txn := range []int{7, 8, 9, 1, 1 << 40} { // 7 may be staged, 9 is committed
				y.refuses(t, x.e, stage(txn, x.l...))
			}
			y.refuses(t, api.ErrArg, stage(0, x.l...), stage(1<<40+1, x.l...))
			y.did = ""
		}
	}
	for _, y := range []*both{nobody, other, small} {
		y.open(t)
	}
}

func TestStageOfWhatIsCommitted(t *testing.T) {
	x := run(t, 200, stage(7, pack(1, "a")), commit(7), stage(8), commit(8))
	for range 2 {
		x.refuses(t, api.ErrState, stage(7), stage(8), stage(7, pack(1, "a")), stage(7, pack(1, "b")), stage(8, ones(16)...))
		x.must(t, stage(9, pack(1, "b")))
		x.refuses(t, api.ErrState, stage(7), stage(8), stage(7, pack(1, "b"))) // also while another one is staged
		x.open(t)
		x.refuses(t, api.ErrState, stage(7), stage(8, pack(1, "b")))
		x.must(t, abort(9))
	}
}

func TestStageOfWhatIsStaged(t *testing.T) {
	for _, wants := range rightStacks() {
		x := run(t, 400, stage(7, wants...))
		for range 2 {
			for _, l := range rightStacks() {
				x.writesNothing(t, stage(7, l...))
				x.refuses(t, api.ErrBusy, stage(8, l...), stage(1, l...), stage(1<<40, l...))
			}
			if txn, l := x.b.Staged(); txn != 7 || !same(l, wants) {
				t.Fatalf("%d, %s, want %s", txn, named(l), named(wants))
			}
			x.open(t)
		}
		x.must(t, commit(7))
		if !same(x.b.Stack(), wants) {
			t.Fatalf("%s, want %s", named(x.b.Stack()), named(wants))
		}
	}
}

func TestStageOfNoPackages(t *testing.T) {
	x := run(t, 100, stage(7))
	if txn, l := x.b.Staged(); txn != 7 || len(l) != 0 || x.d.Done() == 2 {
		t.Fatalf("%d, %v, Done %d", txn, l, x.d.Done())
	}
	x.writesNothing(t, stage(7), stage(7, pack(1, "a")))
	x.refuses(t, api.ErrBusy, stage(8))
	x.open(t)
	x.refuses(t, api.ErrBusy, stage(8))
	x.must(t, commit(7), stage(8, ones(3)...), commit(8), stage(9), commit(9)) // over nothing, and over some
	x.open(t)
	if len(x.b.Stack()) != 0 || len(keysOn(x.d, nil)) != 3 {
		t.Errorf("%s, %s", named(x.b.Stack()), shown(keysOn(x.d, nil)))
	}
}

// P13.4: Commit, Abort

func TestCommitOfWhatIsNotStaged(t *testing.T) {
	x := opened(t, newDisk(t, 100))
	x.refuses(t, api.ErrState, commit(1), commit(7), commit(1<<40))
	x.must(t, stage(7, pack(1, "a")))
	x.refuses(t, api.ErrState, commit(1), commit(8), commit(6), commit(7+256), commit(1<<40))
	x.open(t)
	x.refuses(t, api.ErrState, commit(8))
	x.must(t, abort(7))
	x.refuses(t, api.ErrState, commit(7), commit(8))
	x.open(t)
	x.refuses(t, api.ErrState, commit(7), commit(8))
}

func TestCommitTwice(t *testing.T) {
	x := run(t, 200, stage(7, pack(1, "a")), commit(7))
	x.writesNothing(t, commit(7), commit(7))
	x.open(t)
	x.writesNothing(t, commit(7))
	x.must(t, stage(8, pack(1, "b")))
	x.writesNothing(t, commit(7)) // while another one is staged
	x.must(t, commit(8))
	x.writesNothing(t, commit(7), commit(8), commit(7))
	x.open(t)
	x.writesNothing(t, commit(8), commit(7))
	if !slices.Equal(x.b.Done(), []int{7, 8}) || !same(x.b.Stack(), stackOf(pack(1, "b"))) {
		t.Errorf("%v", x.has)
	}
}

// Over stacks of each length, longer and shorter ones: nothing of what was there is left.
func TestCommitOverEachStack(t *testing.T) {
	for n := range 17 {
		for m := range 17 {
			if n > 3 && m > 3 && n+m < 30 && n != m {
				continue
			}
			next := ones(m)
			slices.Reverse(next)
			x := run(t, 200, stage(7, ones(n)...), commit(7), stage(8, next...))
			if !same(x.b.Stack(), ones(n)) {
				t.Fatalf("%d, %d: %s", n, m, named(x.b.Stack()))
			}
			batches := records(x.d)
			x.must(t, commit(8))
			if records(x.d) != batches+1 {
				t.Fatalf("%d, %d: %d batches", n, m, records(x.d)-batches)
			}
			for range 2 {
				if txn, l := x.b.Staged(); txn != 0 || len(l) != 0 || !same(x.b.Stack(), next) || !slices.Equal(x.b.Done(), []int{7, 8}) {
					t.Fatalf("%d, %d: %v", n, m, x.has)
				}
				x.open(t)
			}
			if keys := len(keysOn(x.d, nil)); keys != m+2 {
				t.Fatalf("%d, %d: %d keys", n, m, keys)
			}
		}
	}
}

// The greatest stacks go into a batch: staged, committed over one another, let go.
func TestGreatestStacks(t *testing.T) {
	x := opened(t, newDisk(t, 400))
	for txn := 1; txn <= 8; txn++ {
		x.must(t, stage(txn, greatest(byte('a'+txn))...), abort(txn), stage(txn, greatest(byte('b'+txn))...), commit(txn))
	}
	x.open(t)
	if !same(x.b.Stack(), greatest('j')) {
		t.Errorf("%s", named(x.b.Stack()))
	}
	eight := slices.Repeat([]int{math.MaxInt32}, 8)
	x.must(t, stage(9, many(8, long('x', 16), long('x', 16), eight...), many(8, long('y', 16), long('y', 16), eight...)), commit(9))
	x.open(t)
}

func TestAbort(t *testing.T) {
	x := opened(t, newDisk(t, 200))
	x.writesNothing(t, abort(1), abort(7), abort(1<<40))
	x.must(t, stage(7, ones(3)...))
	x.writesNothing(t, abort(1), abort(8), abort(6), abort(7+256), abort(1<<40))
	batches := records(x.d)
	x.must(t, abort(7))
	if txn, l := x.b.Staged(); txn != 0 || len(l) != 0 || len(keysOn(x.d, nil)) != 0 || records(x.d) != batches+1 {
		t.Fatalf("%d, %s,%s", txn, named(l), shown(keysOn(x.d, nil)))
	}
	x.writesNothing(t, abort(7), abort(7))
	x.open(t)
	x.writesNothing(t, abort(7))
	x.must(t, stage(7, ones(2)...), commit(7)) // nothing was written down of its having been let go
	x.refuses(t, api.ErrState, abort(7), abort(7))
	x.open(t)
	x.refuses(t, api.ErrState, abort(7))
	x.must(t, stage(8, ones(1)...))
	x.refuses(t, api.ErrState, abort(7)) // while another one is staged
	x.must(t, abort(8))
	if !same(x.b.Stack(), ones(2)) || !slices.Equal(x.b.Done(), []int{7}) {
		t.Errorf("%v", x.has)
	}
	x.open(t)
	x.must(t, stage(9), abort(9))
	x.open(t)
}

// P13.5: Stack, Staged, Done

func TestOfNothing(t *testing.T) {
	b := opened(t, newDisk(t, 6)).b
	if txn, l := b.Staged(); txn != 0 || len(l) != 0 || len(b.Stack()) != 0 || len(b.Done()) != 0 {
		t.Errorf("%v", told(b))
	}
}

func TestDoneInOrder(t *testing.T) {
	x := opened(t, newDisk(t, 600))
	var want []int
	for i := range 300 { // places of two bytes, numbers that neither rise nor fall
		txn := 1 + i*7919%1000
		want = append(want, txn)
		if e := x.b.Stage(txn, ones(i%3)); e != api.OK {
			t.Fatal(int(e))
		}
		if got := x.b.Done(); !slices.Equal(got, want[:i]) {
			t.Fatalf("%v, want %v", got, want[:i])
		}
		if e := x.b.Commit(txn); e != api.OK {
			t.Fatal(int(e))
		}
		if got := x.b.Done(); !slices.Equal(got, want) || !same(x.b.Stack(), ones(i%3)) {
			t.Fatalf("%v, want %v", got, want)
		}
	}
	b, e := Open(x.d)
	if e != api.OK {
		t.Fatal(int(e))
	}
	isRoot(t, b, has{stack: ones(299 % 3), done: want}, "Open")
	for _, txn := range want {
		if e := b.Commit(txn); e != api.OK {
			t.Fatalf("Commit of %d = %d", txn, int(e))
		}
		if e := b.Abort(txn); e != api.ErrState {
			t.Fatalf("Abort of %d = %d", txn, int(e))
		}
	}
}

// What is told changes nothing, and writes nothing.
func TestTellingWritesNothing(t *testing.T) {
	x := run(t, 100, stage(7, ones(2)...), commit(7), stage(8, ones(3)...))
	done := x.d.Done()
	for range 3 {
		isRoot(t, x.b, has{stack: ones(2), staged: 8, wants: ones(3), done: []int{7}}, "told")
	}
	if x.d.Done() != done {
		t.Errorf("Done %d, want %d", x.d.Done(), done)
	}
}

// The rule of objects that no call made

func TestNoRoot(t *testing.T) {
	refused, _ := Open(nil)
	for name, b := range map[string]*DB{"nil": nil, "plain": {}, "new": new(DB), "of Open": refused} {
		for range 2 { // the first round has changed nothing
			for _, txn := range append(rightTxns(), wrongTxns()...) {
				for _, l := range [][]api.Pack{nil, ones(1), ones(17), {{}}} {
					if e := b.Stage(txn, l); e != api.ErrNil {
						t.Errorf("%s: Stage = %d", name, int(e))
					}
				}
				if commit, abort := b.Commit(txn), b.Abort(txn); commit != api.ErrNil || abort != api.ErrNil {
					t.Errorf("%s: Commit = %d, Abort = %d", name, int(commit), int(abort))
				}
			}
			if !told(b).is(has{}) {
				t.Errorf("%s: %v", name, told(b))
			}
		}
	}
}

// All rows of calls

// rowDeeds are calls of two transactions, and opening anew (the one without a name).
func rowDeeds() []deed {
	return []deed{stage(7, pack(1, "a")), stage(7), stage(8, pack(1, "b"), pack(2, "a")), commit(7), commit(8), abort(7), abort(8), {}}
}

func TestAllRows(t *testing.T) {
	for _, n := range []int{40, 8} { // logs of 1216 and of 192 bytes: in the second one there is no room for all
		told := map[string]int{}
		var from func(row []deed)
		from = func(row []deed) {
			x := opened(t, newDisk(t, n))
			for _, y := range row {
				if y.name == "" {
					x.open(t)
				} else {
					told[fmt.Sprint(y.name, " ", int(x.do(t, y)))]++
				}
			}
			for _, y := range rowDeeds() {
				if len(row) < 4 {
					from(append(slices.Clone(row), y))
				}
			}
		}
		from(nil)
		for _, name := range []string{"Stage 0", "Stage 10", "Stage 11", "Commit 0", "Commit 11", "Abort 0", "Abort 11"} {
			if told[name] < 10 {
				t.Errorf("of %d blocks: %s came %d times", n, name, told[name])
			}
		}
	}
}

// The errors of the database

// A disk of 6 blocks has 128 bytes for a log. There a staged package of two layers, whose name and version have s bytes, has 100 + s; when it is committed, 7 more.
func TestNoRoomByTheByte(t *testing.T) {
	for s := 2; s <= 32; s++ {
		name := max(1, s-16)
		p := many(1, long('n', name), long('v', s-name), 1, 2)
		x := opened(t, newDisk(t, 6))
		if s > 28 {
			x.refuses(t, api.ErrFull, stage(7, p), stage(7, p))
			x.must(t, stage(7), abort(7), stage(8, pack(1, "a")))
			x.open(t)
			continue
		}
		x.must(t, stage(7, p))
		x.refuses(t, api.ErrBusy, stage(8))
		x.writesNothing(t, stage(7), abort(8))
		if s <= 21 {
			x.must(t, commit(7))
			x.open(t)
			continue
		}
		x.refuses(t, api.ErrFull, commit(7), commit(7))
		x.open(t)
		x.refuses(t, api.ErrFull, commit(7))
		x.refuses(t, api.ErrState, commit(8))
		x.must(t, abort(7), stage(7), commit(7))
		x.open(t)
	}
}

// When the disk is full of those that were committed, what is staged can be let go still, and the root goes on where there is room.
func TestNoRoomBehindManyCommits(t *testing.T) {
	for _, n := range []int{8, 12, 20, 40} {
		x := opened(t, newDisk(t, n))
		room, txn := 64*((n-2)/2), 1
		for ; ; txn++ {
			if e := x.do(t, stage(txn)); e == api.ErrFull {
				break
			}
			if e := x.do(t, commit(txn)); e == api.ErrFull {
				x.must(t, abort(txn))
				break
			}
			x.did = ""
		}
		if commits := txn - 1; commits < room/20-2 || commits > room/20 {
			t.Errorf("of %d blocks: %d commits", n, commits)
		}
		x.refuses(t, api.ErrFull, stage(txn, ones(2)...), stage(txn+1, ones(16)...))
		x.writesNothing(t, commit(1), abort(txn), abort(txn+1))
		x.refuses(t, api.ErrState, abort(1), stage(1), commit(txn))
		x.open(t)
		x.refuses(t, api.ErrFull, stage(txn, ones(2)...))
		if len(x.b.Done()) != txn-1 {
			t.Errorf("%v", x.b.Done())
		}
	}
}

// A log that other hands filled to the last byte, with many batches: Commit over a stack and Abort leave less than there was, so there is room.
func TestRoomForLess(t *testing.T) {
	for _, y := range []deed{commit(7), abort(7)} {
		d := newDisk(t, 40)
		db, _ := kv.Open(d)
		for _, p := range (has{stack: ones(2), staged: 7, wants: ones(3), done: []int{9}}).puts() {
			if e := db.Do([]api.Put{p}); e != api.OK { // one batch each
				t.Fatal(int(e))
			}
		}
		log, _ := wal.Open(d)
		for log.Room() > 0 {
			again := "\x00" + text("t") + text(eight(7)+"\x03") // the staged number: 22 bytes as a frame
			rec := "\x01" + again
			if room := log.Room(); room < 22+25 {
				rec = "\x02\x01" + text(long('x', room-24)) + again // and a key goes that was none
			}
			if log.Add(rec) != api.OK || log.Sync() != api.OK {
				t.Fatalf("room for %d", log.Room())
			}
		}
		x := opened(t, d)
		x.must(t, y)
		x.open(t)
		x.must(t, stage(8, ones(1)...), commit(8))
		x.open(t)
	}
}

// isLost fails where a root whose disk failed takes anything more, or tells anything else than it did. What writes nothing is answered as before.
func isLost(t *testing.T, x *both) {
	t.Helper()
	for _, txn := range x.has.done {
		x.writesNothing(t, commit(txn))
		x.refuses(t, api.ErrState, stage(txn), abort(txn))
	}
	x.refuses(t, api.ErrArg, stage(0), commit(0), abort(1<<40+1), stage(99, pack(0, "a")))
	x.refuses(t, api.ErrThere, stage(99, pack(1, "a"), pack(1, "a")))
	x.refuses(t, api.ErrState, commit(99))
	x.writesNothing(t, abort(99))
	if x.has.staged == 0 {
		x.answers(t, api.ErrDown, stage(99), stage(99, ones(16)...), stage(98, pack(1, "a")))
		return
	}
	x.refuses(t, api.ErrBusy, stage(99), stage(99, pack(1, "a")))
	x.writesNothing(t, stage(x.has.staged), stage(x.has.staged, pack(1, "other")))
	x.answers(t, api.ErrDown, commit(x.has.staged), abort(x.has.staged), commit(x.has.staged))
}

// pasts are what was done ahead; deeds are calls that write.

func pasts() [][]deed {
	a, b, c := pack(1, "a"), pack(2, "b"), many(3, "c", "1", 300, 1)
	return [][]deed{
		nil,
		{stage(7, a)},
		{stage(7)},
		{stage(9, a), commit(9)},
		{stage(9, c), commit(9), stage(7, a, b)},
		{stage(9, b, a), commit(9), stage(8, a)},
		{stage(9, a, b), commit(9), stage(8)},
	}
}

func deeds() []deed {
	a, b := pack(1, "a"), pack(2, "b")
	return []deed{stage(7), stage(7, a), stage(8, b, a), commit(7), commit(8), abort(7), abort(8)}
}

// What is told does not change when a Write or a Flush fails, and stays so until the root is opened anew, also when the disk is up again.
func TestErrorsOfTheDisk(t *testing.T) {
	failed := map[string]int{}
	for _, past := range pasts() {
		for _, y := range deeds() {
			for fuse := 0; ; fuse++ {
				x := run(t, 40, past...)
				x.fuse(fuse)
				if e := x.do(t, y); e != api.ErrDown {
					break
				}
				failed[y.name]++
				isLost(t, x)
				x.crash(2, 2, 2)
				isLost(t, x)
				if e := x.open(t); e != api.OK {
					t.Fatalf("behind%s: Open = %d", x.did, int(e))
				}
				if x.has.staged != 0 {
					x.must(t, abort(x.has.staged))
				}
				x.must(t, stage(10, ones(2)...), commit(10))
			}
		}
	}
	for _, name := range []string{"Stage", "Commit", "Abort"} {
		if failed[name] < 15 {
			t.Errorf("%s failed at %d places", name, failed[name])
		}
	}
}

// P13.6

// choices are all ways to keep some of the writes that wait.
func choices(waiting []api.Wait) [][]int {
	out := [][]int{nil}
	for _, w := range waiting {
		var longer [][]int
		for _, keep := range out {
			for m := range w.N + 1 {
				longer = append(longer, append(slices.Clone(keep), m))
			}
		}
		out = longer
	}
	return out
}

// someChoices are ways to keep some of many blocks' writes: none, the first few, the last few, one alone, all but one.
func someChoices(waiting []api.Wait) [][]int {
	out := [][]int{nil}
	for i := range waiting {
		first, alone := make([]int, len(waiting)), make([]int, len(waiting))
		for k := range waiting {
			if k <= i {
				first[k] = 1
			}
		}
		alone[i] = 1
		out = append(out, first, opposite(first), alone, opposite(alone))
	}
	return out
}

func opposite(keep []int) []int {
	var out []int
	for _, m := range keep {
		out = append(out, 1-m)
	}
	return out
}

// explorer looks at all disks that a row of deeds can leave, wherever power is lost.
type explorer struct {
	seen   map[string]bool
	losses int
	olds   map[string]int // by the call that was under way: how often it was not done
	nexts  map[string]int // how often it was
}

func newExplorer() *explorer {
	return &explorer{seen: map[string]bool{}, olds: map[string]int{}, nexts: map[string]int{}}
}

// isEnough fails where fewer losses were looked at of a call, done and not done.
func (x *explorer) isEnough(t *testing.T, losses, olds, nexts int) {
	t.Helper()
	for _, name := range []string{"Stage", "Commit", "Abort"} {
		if x.losses < losses || x.olds[name] < olds || x.nexts[name] < nexts {
			t.Errorf("%d losses, of %s %d without what was under way, %d with it", x.losses, name, x.olds[name], x.nexts[name])
		}
	}
}

// from goes on from a disk whose root has this.
func (x *explorer) from(t *testing.T, d *disk.Disk, there has, depth int) {
	t.Helper()
	key := fmt.Sprint(depth) + durable(d)
	if depth == 0 || x.seen[key] {
		return
	}
	x.seen[key] = true
	for _, y := range deeds() {
		for fuse := 0; ; fuse++ {
			z := opened(t, d.Copy())
			isRoot(t, z.b, there, "Open")
			_, next, _ := y.plan(there)
			z.fuse(fuse)
			if e := z.do(t, y); e != api.ErrDown {
				z.crash() // takes the fuse away; nothing waits
				x.from(t, z.d, z.has, depth-1)
				break
			}
			for _, keep := range choices(z.d.Waiting()) {
				x.lose(t, z.d, keep, y, there, next, depth)
			}
		}
	}
}

// lose takes the power away, keeping these writes: the root has what it had, or the next one, also behind another loss within Open.
func (x *explorer) lose(t *testing.T, d *disk.Disk, keep []int, y deed, old, next has, depth int) {
	t.Helper()
	x.losses++
	d = d.Copy()
	d.Crash(keep)
	found := old
	for _, why := range []string{"and opened", "and lost it again"} {
		d.Fuse(0)
		b, e := Open(d)
		if e != api.OK {
			t.Fatalf("%v, kept %v, %s: Open = %d", y, keep, why, int(e))
		}
		if why == "and opened" && !told(b).is(old) {
			found = next
		}
		isRoot(t, b, found, fmt.Sprintf("%v, kept %v, %s", y, keep, why))
		d.Flush() // goes down, if it did not within Open
		d.Crash(nil)
	}
	if found.is(old) {
		x.olds[y.name]++
	} else {
		x.nexts[y.name]++
	}
	x.from(t, d, found, depth-1)
}

func TestEachLossOfPower(t *testing.T) {
	for _, n := range []int{10, 16} { // logs of 256 and of 448 bytes: in the first of them there is no room for all
		x := newExplorer()
		for _, past := range pasts() {
			y := opened(t, newDisk(t, n))
			for _, z := range past {
				y.do(t, z)
			}
			x.from(t, y.d, y.has, 3)
		}
		x.isEnough(t, 8000, 500, 100)
	}
}

// The first Open writes, and may lose its power; so may the one behind it.
func TestEachLossOfPowerWithinOpen(t *testing.T) {
	var from func(d *disk.Disk, depth int)
	from = func(d *disk.Disk, depth int) {
		for fuse := range 3 {
			c := d.Copy()
			c.Fuse(fuse)
			b, e := Open(c)
			if (b == nil) != (e != api.OK) || e != api.OK && e != api.ErrDown {
				t.Fatalf("a fuse of %d: %v, %d", fuse, b, int(e))
			}
			for _, keep := range choices(c.Waiting()) {
				again := c.Copy()
				again.Crash(keep)
				y := opened(t, again.Copy())
				isRoot(t, y.b, has{}, "Open")
				y.must(t, stage(7, pack(1, "a")), commit(7), stage(8))
				y.crash()
				y.open(t)
				isRoot(t, y.b, has{stack: stackOf(pack(1, "a")), staged: 8, done: []int{7}}, "Open")
				if depth > 1 {
					from(again, depth-1)
				}
			}
		}
	}
	from(newDisk(t, 8), 3)
}

// Stacks of many blocks: all their packages are there, or none of them.
func TestEachLossOfPowerOfGreatStacks(t *testing.T) {
	x := newExplorer()
	for _, n := range []int{60, 200} { // in the first one the log is reset
		for _, past := range [][]deed{{}, {stage(9, ones(16)...), commit(9)}, {stage(9, greatest('x')...), commit(9), stage(7, ones(15)...)}, {stage(9, ones(2)...), commit(9), stage(7, ones(16)...)}} {
			for _, y := range []deed{stage(7, ones(16)...), commit(7), abort(7)} {
				for fuse := 0; ; fuse++ {
					z := opened(t, newDisk(t, n))
					for _, w := range past {
						z.do(t, w)
					}
					_, next, _ := y.plan(z.has)
					z.fuse(fuse)
					if e := z.do(t, y); e != api.ErrDown {
						break
					}
					for _, keep := range someChoices(z.d.Waiting()) {
						x.lose(t, z.d, keep, y, z.has, next, 1)
					}
				}
			}
		}
	}
	x.isEnough(t, 1000, 50, 5)
}

// Calls, fuses, losses of power and openings, in any order, on disks of all sizes.
func TestRowsByChance(t *testing.T) {
	chance := rand.New(rand.NewSource(13))
	told := map[string]int{}
	for round := range 150 {
		x := opened(t, newDisk(t, []int{6, 9, 12, 20, 60, 400}[round%6]))
		for range 60 {
			x.chance(t, chance, told)
			x.did = ""
		}
	}
	for _, name := range []string{"Stage 0", "Stage 2", "Stage 3", "Stage 7", "Stage 8", "Stage 10", "Stage 11", "Stage 15", "Commit 0", "Commit 2", "Commit 7", "Commit 11", "Commit 15", "Abort 0", "Abort 2", "Abort 11", "Abort 15", "found old", "found next"} {
		if told[name] < 5 {
			t.Errorf("%s came %d times: %v", name, told[name], told)
		}
	}
	if told["Abort 7"] > 0 { // what it leaves is less than what was there
		t.Errorf("%v", told)
	}
}

// chance does one thing, whichever it is; what is lost by it is what was under way, or nothing.
func (x *both) chance(t *testing.T, chance *rand.Rand, told map[string]int) {
	t.Helper()
	if x.d.Up() && chance.Intn(5) == 0 {
		x.fuse(chance.Intn(12))
	}
	old := x.has
	y := anyDeed(chance, old)
	_, next, _ := y.plan(old)
	e := x.do(t, y)
	told[fmt.Sprint(y.name, " ", int(e))]++
	if e != api.ErrDown && chance.Intn(8) > 0 {
		return
	}
	if e == api.ErrDown && chance.Intn(3) == 0 {
		isLost(t, x)
	}
	if e != api.ErrDown {
		old, next = x.has, x.has
	}
	var keep []int
	for range x.d.Waiting() {
		keep = append(keep, chance.Intn(3))
	}
	x.crash(keep...)
	if e := x.open(t); e != api.OK {
		t.Fatalf("behind%s: Open = %d", x.did, int(e))
	}
	switch {
	case x.has.is(old):
		told["found old"]++
	case x.has.is(next):
		told["found next"]++
	default:
		t.Fatalf("behind%s: %v, want %v or %v", x.did, x.has, old, next)
	}
}

// anyDeed is a call of a few transactions and a few stacks, now and then a wrong one; more often than not of the one that is staged.
func anyDeed(chance *rand.Rand, there has) deed {
	stacks := [][]api.Pack{nil, ones(1), ones(2), {pack(1, "a")}, {many(2, long('n', 12), long('v', 12), 1, 2)}, {pack(2, "b"), many(1, "c", "1", 1, 2, 300)}, ones(16), {pack(0, "a")}, {pack(1, "a"), pack(2, "a")}, ones(17)}
	txn := 1 + chance.Intn(40)
	if there.staged != 0 && chance.Intn(3) > 0 {
		txn = there.staged
	}
	if chance.Intn(12) == 0 {
		txn = slices.Concat(rightTxns(), wrongTxns())[chance.Intn(18)]
	}
	switch chance.Intn(6) {
	case 0, 1, 2:
		return stage(txn, stacks[chance.Intn(len(stacks))]...)
	case 3, 4:
		return commit(txn)
	}
	return abort(txn)
}

// What was committed stays, in its order, and nothing is committed twice; the stack changes by a Commit alone, and is what was staged then. This leans on no model of what is done to the database.
func TestThePastStays(t *testing.T) {
	chance := rand.New(rand.NewSource(31))
	commits, lost := 0, 0
	for round := range 100 {
		d := newDisk(t, []int{8, 16, 40, 200}[round%4])
		b, _ := Open(d)
		ahead := has{}
		for range 80 {
			if chance.Intn(6) == 0 {
				d.Fuse(chance.Intn(8))
			}
			y := anyDeed(chance, ahead)
			e := call(b, y)
			if now := told(b); e != api.OK && !now.is(ahead) {
				t.Fatalf("%v = %d: %v, want %v", y, int(e), now, ahead)
			}
			if e == api.ErrDown {
				lost++
				d.Crash([]int{chance.Intn(2), chance.Intn(2), chance.Intn(2), chance.Intn(2)})
				if b, e = Open(d); e != api.OK {
					t.Fatalf("%v: Open = %d", y, int(e))
				}
			}
			now := told(b)
			commits += holdsPast(t, y, ahead, now)
			ahead = now
		}
	}
	if commits < 200 || lost < 200 {
		t.Errorf("%d commits, %d losses", commits, lost)
	}
}

// holdsPast fails where what was told ahead of a call and what is told behind it do not go together; it counts what was committed.
func holdsPast(t *testing.T, y deed, ahead, now has) int {
	t.Helper()
	switch {
	case len(now.done) == len(ahead.done) && slices.Equal(now.done, ahead.done) && same(now.stack, ahead.stack):
		isLet := ahead.staged == y.txn && y.name == "Abort" && now.staged == 0
		isLaid := ahead.staged == 0 && y.name == "Stage" && now.staged == y.txn && same(now.wants, y.l)
		if !isLet && !isLaid && (now.staged != ahead.staged || !same(now.wants, ahead.wants)) {
			t.Fatalf("%v: %v, behind %v", y, now, ahead)
		}
		return 0
	case y.name == "Commit" && ahead.staged == y.txn && now.staged == 0 && !slices.Contains(ahead.done, y.txn) && slices.Equal(now.done, append(slices.Clone(ahead.done), y.txn)) && same(now.stack, ahead.wants):
		return 1
	}
	t.Fatalf("%v: %v, behind %v", y, now, ahead)
	return 0
}

// Rule 5: memory

// roomy is the same packages in lists that have memory behind their lengths; memory all that packages stand in, with what is behind the lengths; spoil writes over all of it.

func roomy(l []api.Pack) []api.Pack {
	out := make([]api.Pack, 0, len(l)+3)
	for _, p := range l {
		p.Man.Layers = append(make([]api.Ref, 0, len(p.Man.Layers)+3), p.Man.Layers...)
		out = append(out, p)
	}
	for i := range out[:cap(out)] {
		refs := out[:cap(out)][i].Man.Layers
		for k := len(refs); k < cap(refs); k++ {
			refs[:cap(refs)][k].Size = 1000 + k
		}
		if i >= len(out) {
			out[:cap(out)][i].Owner = 1000 + i
		}
	}
	return out
}

func memory(l []api.Pack) string {
	out := ""
	for _, p := range l[:cap(l)] {
		out += fmt.Sprint(p.Owner, p.Man.Name, p.Man.Version, p.Man.Layers[:cap(p.Man.Layers)])
	}
	return out
}

func spoil(l []api.Pack) {
	l = l[:cap(l)]
	for i := range l {
		refs := l[i].Man.Layers[:cap(l[i].Man.Layers)]
		for k := range refs {
			refs[k] = api.Ref{Sum: api.Digest{99, byte(k)}, Size: 99}
		}
		l[i] = api.Pack{Owner: 99, Man: api.Manifest{Name: "spoilt"}}
	}
}

func TestWhatIsHandedInIsNotKept(t *testing.T) {
	want := stackOf(many(1, "a", "1", 5, 6), pack(2, "b"))
	x := opened(t, newDisk(t, 200))
	l := roomy(want)
	given := memory(l)
	unchanged := func(why string, e, wanted api.Errno) {
		t.Helper()
		if e != wanted || memory(l) != given {
			t.Fatalf("%s: %d, want %d; %s, want %s", why, int(e), int(wanted), memory(l), given)
		}
	}
	unchanged("Check", Check(l), api.OK)
	Sums(l)
	Size(l, 1)
	unchanged("Sums and Size", api.OK, api.OK)
	unchanged("Stage", x.b.Stage(7, l), api.OK)
	unchanged("Stage of what is staged", x.b.Stage(7, l), api.OK)
	unchanged("Stage of another one", x.b.Stage(8, l), api.ErrBusy)
	spoil(l)
	isRoot(t, x.b, has{staged: 7, wants: want}, "what was handed in was changed")
	l = roomy(want[1:])
	given = memory(l)
	unchanged("Stage of what is staged, with another stack", x.b.Stage(7, l), api.OK)
	spoil(l)
	isRoot(t, x.b, has{staged: 7, wants: want}, "what was handed in was changed")
	if e := x.b.Commit(7); e != api.OK {
		t.Fatal(int(e))
	}
	spoil(l)
	isRoot(t, x.b, has{stack: want, done: []int{7}}, "and committed")
	b, _ := Open(x.d)
	isRoot(t, b, has{stack: want, done: []int{7}}, "opened")
}

// What lies behind a list's length is not looked at, whatever it is.
func TestBehindTheLength(t *testing.T) {
	l := append(ones(2), pack(0, "wrong"), pack(1, "p0"))
	if Check(l[:2]) != api.OK || len(Sums(l[:2])) != 2 || Size(l[:2], 1) != 5 || len(Sums(l[:0])) != 0 {
		t.Errorf("%d, %x, %d", int(Check(l[:2])), Sums(l[:2]), Size(l[:2], 1))
	}
	x := run(t, 100, stage(7, l[:2]...))
	x.must(t, commit(7))
	x.open(t)
}

func TestWhatIsToldIsNew(t *testing.T) {
	x := run(t, 200, stage(7, many(1, "a", "1", 5, 6), pack(2, "b")), commit(7), stage(8, ones(3)...), commit(8), stage(9, many(1, "c", "1", 1, 2, 3), pack(2, "d")))
	for range 2 {
		kept := told(x.b)
		for range 2 {
			all := told(x.b)
			spoil(all.stack)
			spoil(all.wants)
			for i := range all.done[:cap(all.done)] {
				all.done[:cap(all.done)][i] = 99
			}
			isRoot(t, x.b, x.has, "what was told was changed")
		}
		if !kept.is(x.has) {
			t.Fatalf("%v, want %v", kept, x.has)
		}
		x.open(t)
	}
	ahead, first := x.has, told(x.b)
	x.must(t, commit(9))
	spoil(first.wants) // told when it was staged, of what the root has now
	isRoot(t, x.b, x.has, "what was told was changed")
	second := told(x.b)
	x.must(t, stage(10, ones(1)...), abort(10), stage(11, ones(2)...), commit(11))
	if !same(first.stack, ahead.stack) || !slices.Equal(first.done, ahead.done) || !same(second.stack, ahead.wants) || !slices.Equal(second.done, []int{7, 8, 9}) {
		t.Errorf("what was told was changed: %v, %v", first, second)
	}
}

// The lists of one answer share no memory with one another.
func TestListsOfOneAnswer(t *testing.T) {
	p := many(1, "a", "1", 5, 6)
	q := api.Pack{Owner: 2, Man: api.Manifest{Name: "b", Version: "1", Layers: p.Man.Layers}} // handed in, they share
	x := run(t, 200, stage(7, p, q))
	for range 2 {
		for _, l := range [][]api.Pack{told(x.b).stack, told(x.b).wants} {
			for i := range l {
				spoil(l[i : i+1 : i+1])
				for k := range l[i+1:] {
					if !samePack(l[i+1+k], stackOf(p, q)[i+1+k]) {
						t.Fatalf("%v", l)
					}
				}
			}
		}
		x.must(t, commit(7))
	}
	sums := Sums(stackOf(p, q))
	sums[0] = api.Digest{}
	if !samePack(p, many(1, "a", "1", 5, 6)) || sums[2] != p.Man.Layers[0].Sum {
		t.Errorf("%x, %v", sums, p)
	}
}

// Two roots of two disks have nothing in common, also where one disk is the other's copy.
func TestRootsOfCopies(t *testing.T) {
	x := run(t, 200, stage(7, ones(2)...))
	y := opened(t, x.d.Copy())
	x.must(t, commit(7), stage(8, ones(1)...))
	isRoot(t, y.b, y.has, "the other one was changed")
	y.must(t, abort(7), stage(9, ones(3)...))
	isRoot(t, x.b, x.has, "the other one was changed")
	x.open(t)
	y.open(t)
}
