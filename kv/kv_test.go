package kv

import (
	"encoding/binary"
	"fmt"
	"maps"
	"math"
	"math/rand"
	"slices"
	"strings"
	"testing"

	"veneer/api"
	"veneer/disk"
	"veneer/wal"
)

// put is a change that gives a key a value; gone one that takes it away; long is a text of n bytes.

func put(key, value string) api.Put { return api.Put{Key: key, Value: value} }

func gone(key string) api.Put { return api.Put{Key: key, Gone: true} }

func long(c byte, n int) string { return strings.Repeat(string([]byte{c}), n) }

// many is n changes of keys that rise, each with that value.
func many(n int, value string) []api.Put {
	var l []api.Put
	for i := range n {
		l = append(l, put(fmt.Sprintf("k%03d", i), value))
	}
	return l
}

// bytesOf is the bytes of changes as the chapter tells them, of any changes.
func bytesOf(l []api.Put) string {
	text := func(s string) string { return string(binary.AppendUvarint(nil, uint64(len(s)))) + s }
	out := string(binary.AppendUvarint(nil, uint64(len(l))))
	for _, x := range l {
		if x.Gone {
			out += "\x01" + text(x.Key)
		} else {
			out += "\x00" + text(x.Key) + text(x.Value)
		}
	}
	return out
}

// errorOf is what Encode must answer.
func errorOf(l []api.Put) api.Errno {
	for _, x := range l {
		if len(x.Key) < 1 || len(x.Key) > 64 || len(x.Value) > 1024 || x.Gone && x.Value != "" {
			return api.ErrArg
		}
	}
	switch {
	case len(l) == 0:
		return api.ErrArg
	case len(l) > 64, len(bytesOf(l)) > 4096:
		return api.ErrBig
	}
	return api.OK
}

// parsed tells the batch whose bytes a text is, if it is one: it stops at the first byte that no batch has there.
func parsed(s string) (l []api.Put, ok bool) {
	all := s
	number := func(least, most uint64) (uint64, bool) {
		v, n := binary.Uvarint([]byte(s))
		if n <= 0 || v < least || v > most || string(binary.AppendUvarint(nil, v)) != s[:n] {
			return 0, false
		}
		s = s[n:]
		return v, true
	}
	text := func(least, most uint64) (string, bool) {
		n, ok := number(least, most)
		if !ok || n > uint64(len(s)) {
			return "", false
		}
		out := s[:n]
		s = s[n:]
		return out, true
	}
	count, ok := number(1, 64)
	if !ok || len(all) > 4096 {
		return nil, false
	}
	for range count {
		if s == "" || s[0] > 1 {
			return nil, false
		}
		x := api.Put{Gone: s[0] == 1}
		s = s[1:]
		if x.Key, ok = text(1, 64); !ok {
			return nil, false
		}
		if !x.Gone {
			if x.Value, ok = text(0, 1024); !ok {
				return nil, false
			}
		}
		l = append(l, x)
	}
	return l, s == ""
}

// left is what keys have behind changes; recsOf the records of their snapshot.

func left(keys map[string]string, l []api.Put) map[string]string {
	out := maps.Clone(keys)
	if out == nil {
		out = map[string]string{}
	}
	for _, x := range l {
		delete(out, x.Key)
		if !x.Gone {
			out[x.Key] = x.Value
		}
	}
	return out
}

func putsOf(keys map[string]string) []api.Put {
	var l []api.Put
	for _, key := range slices.Sorted(maps.Keys(keys)) {
		l = append(l, put(key, keys[key]))
	}
	return l
}

func recsOf(keys map[string]string) []string {
	var recs []string
	for l := putsOf(keys); len(l) > 0; {
		n := min(64, len(l))
		for len(bytesOf(l[:n])) > 4096 {
			n--
		}
		recs, l = append(recs, bytesOf(l[:n])), l[n:]
	}
	return recs
}

// P11.1: Encode, Decode

// isBatch fails where changes are no batch, or where its bytes do not lead back to it.
func isBatch(t *testing.T, l []api.Put) string {
	t.Helper()
	given := slices.Clone(l)
	s, e := Encode(l)
	if e != api.OK || s != bytesOf(l) {
		t.Fatalf("Encode of %.500v = %.500q, %d, want %.500q", l, s, int(e), bytesOf(l))
	}
	back, e := Decode(s)
	if e != api.OK || !slices.Equal(back, l) || !slices.Equal(given, l) {
		t.Fatalf("Decode of %.500q = %.500v, %d, want %.500v", s, back, int(e), l)
	}
	return s
}

// isNoBatch fails where changes are not refused by that error; isNoBytes where a text is not refused.

func isNoBatch(t *testing.T, l []api.Put, want api.Errno) {
	t.Helper()
	if s, e := Encode(l); s != "" || e != want {
		t.Fatalf("Encode of %d changes, %.500v = %.500q, %d, want %d", len(l), l, s, int(e), int(want))
	}
}

func isNoBytes(t *testing.T, s string) {
	t.Helper()
	if l, e := Decode(s); len(l) != 0 || e != api.ErrForm {
		t.Fatalf("Decode of %d bytes, %.500q = %.500v, %d", len(s), s, l, int(e))
	}
}

// just is changes whose bytes are n in all, of four keys and more: n is from 4000 to 4200.
func just(n int) []api.Put {
	l := []api.Put{put("a", long('1', 1024)), put("b", long('2', 1024)), put("c", long('3', 1024)), gone("x")}
	return append(l, put("d", long('4', n-len(bytesOf(l))-5))) // the fifth has a flag, a byte, its key and two bytes ahead of its value
}

// batches are some that may be, on the edges that the chapter names.
func batches() [][]api.Put {
	every := ""
	for i := range 256 {
		every += string([]byte{byte(i)})
	}
	return [][]api.Put{
		{put("a", "x"), gone("b")},
		{put("a", "")},
		{gone("a")},
		{put("\x00", "\x00")},
		{put("\xff", "\xff\xfe")},
		{put(every[:64], every), put(every[64:128], ""), put(every[128:192], every), gone(every[192:])},
		{put(long('k', 64), "x"), gone(long('k', 64))},
		{put("a", long('v', 127)), put("b", long('v', 128)), put("c", long('v', 1023)), put("d", long('v', 1024))},
		{put(long('k', 64), long('v', 1024))},
		{put("a", "1"), put("a", "2"), gone("a"), gone("a"), put("a", "3")},
		{put("b", "1"), put("a", "2")},
		many(63, "x"),
		many(64, ""),
		slices.Repeat([]api.Put{gone("a")}, 64),
		just(4095),
		just(4096),
	}
}

func TestEncodeByHand(t *testing.T) {
	for _, x := range []struct {
		l    []api.Put
		want string
	}{
		{[]api.Put{put("a", "x"), gone("b")}, "\x02\x00\x01a\x01x\x01\x01b"},
		{[]api.Put{put("a", "")}, "\x01\x00\x01a\x00"},
		{[]api.Put{gone("ab")}, "\x01\x01\x02ab"},
		{[]api.Put{put("a", "x"), put("a", "y")}, "\x02\x00\x01a\x01x\x00\x01a\x01y"},
		{[]api.Put{put(long('k', 64), long('v', 1024))}, "\x01\x00\x40" + long('k', 64) + "\x80\x08" + long('v', 1024)},
		{[]api.Put{put("k", long('v', 127))}, "\x01\x00\x01k\x7f" + long('v', 127)},
		{[]api.Put{put("k", long('v', 128))}, "\x01\x00\x01k\x80\x01" + long('v', 128)},
		{slices.Repeat([]api.Put{gone("a")}, 64), "\x40" + strings.Repeat("\x01\x01a", 64)},
	} {
		if s, e := Encode(x.l); s != x.want || e != api.OK {
			t.Errorf("%v: %q, %d, want %q", x.l, s, int(e), x.want)
		}
		if l, e := Decode(x.want); !slices.Equal(l, x.l) || e != api.OK {
			t.Errorf("%q: %v, %d, want %v", x.want, l, int(e), x.l)
		}
	}
}

func TestEncodeOfWhatMayBe(t *testing.T) {
	for _, l := range batches() {
		isBatch(t, l)
	}
	if n := len(isBatch(t, just(4096))); n != 4096 {
		t.Errorf("%d bytes", n)
	}
	for n := 1; n <= 64; n++ {
		isBatch(t, many(n, "v"))
		isBatch(t, []api.Put{put(long('k', n), "")})
		isBatch(t, []api.Put{gone(long('k', n))})
	}
	for n := range 1025 {
		isBatch(t, []api.Put{put("k", long('v', n))})
	}
	for c := range 256 {
		isBatch(t, []api.Put{put(string([]byte{byte(c)}), string([]byte{byte(c)})), gone(string([]byte{byte(c)}))})
	}
}

// wrongs are changes that may not be.
func wrongs() []api.Put {
	return []api.Put{
		{}, {Value: "x"}, {Gone: true}, {Value: "x", Gone: true},
		put(long('k', 65), "x"), gone(long('k', 65)), put(long('k', 1000), ""),
		put("a", long('v', 1025)), put("a", long('v', 100000)),
		{Key: "a", Value: "x", Gone: true}, {Key: "a", Value: long('v', 1024), Gone: true}, {Key: "a", Value: long('v', 1025), Gone: true},
	}
}

func TestEncodeIsRefused(t *testing.T) {
	isNoBatch(t, nil, api.ErrArg)
	isNoBatch(t, []api.Put{}, api.ErrArg)
	isNoBatch(t, many(64, "x")[:0], api.ErrArg)
	for _, n := range []int{65, 66, 127, 128, 1000} {
		isNoBatch(t, many(n, ""), api.ErrBig)
		isNoBatch(t, slices.Repeat([]api.Put{gone("a")}, n), api.ErrBig)
	}
	isNoBatch(t, just(4097), api.ErrBig)
	isNoBatch(t, just(4098), api.ErrBig)
	isNoBatch(t, many(64, long('v', 1024)), api.ErrBig)
	isNoBatch(t, many(65, long('v', 1024)), api.ErrBig)
	for _, x := range wrongs() {
		isNoBatch(t, []api.Put{x}, api.ErrArg)
		for at := range 4 {
			isNoBatch(t, slices.Insert(many(3, "x"), at, x), api.ErrArg)
		}
		// that one may not be is named ahead of that they are too many, or too long
		isNoBatch(t, append(many(64, ""), x), api.ErrArg)
		isNoBatch(t, append([]api.Put{x}, many(64, "")...), api.ErrArg)
		isNoBatch(t, append(many(1000, ""), x), api.ErrArg)
		isNoBatch(t, append(just(4096), x), api.ErrArg)
		isNoBatch(t, append(just(4097), x), api.ErrArg)
		isNoBatch(t, append([]api.Put{x}, many(64, long('v', 1024))...), api.ErrArg)
	}
}

func TestDecodeByHand(t *testing.T) {
	for _, s := range []string{
		"", "\x00", "\x01", "\x80", "\x80\x00", "\x00\x00\x01a\x00", "\x00\x01\x01a",
		"\x81\x00\x01\x01a",                                                             // how many, in a longer form
		"\x01\x81\x00\x01a",                                                             // the flag in one
		"\x01\x80\x00\x01a\x00",                                                         // likewise
		"\x01\x01\x81\x00a",                                                             // the key's length
		"\x01\x00\x01a\x81\x00x",                                                        // the value's
		"\x01\x00\x01a\x80\x00",                                                         // likewise
		"\x01\x02\x01a", "\x01\x02\x01a\x00", "\x01\xff\x01a\x00", "\x01\x03\x01a\x01x", // flags that are none
		"\x01\x01\x00", "\x01\x00\x00\x00", "\x01\x00\x00\x01x", // keys of no bytes
		"\x01\x01\x41" + long('k', 65), "\x01\x00\x41" + long('k', 65) + "\x00",
		"\x01\x00\x01a\x81\x08" + long('v', 1025),
		"\x02\x01\x01a", "\x01\x01\x01a\x01\x01b", "\x01\x01\x01a\x00", "\x01\x00\x01a\x00\x00", // more, or fewer, than it tells
		"\x41" + strings.Repeat("\x01\x01a", 65),
		"\x41" + strings.Repeat("\x01\x01a", 64),
		"\x40" + strings.Repeat("\x01\x01a", 65),
		"\x40" + strings.Repeat("\x01\x01a", 63),
		"\x80\x01" + strings.Repeat("\x01\x01a", 128),
		bytesOf(just(4097)),
		bytesOf(many(64, long('v', 1024))),
		"\x01\x01\xff\xff\xff\xff\xff\xff\xff\xff\xff\x01a", // a key of 2^64 - 1 bytes
		"\x01\x00\x01a\xff\xff\xff\xff\xff\xff\xff\xff\xff\x01x",
		"\x01\x00\x01a\xff\xff\xff\xff\xff\xff\xff\xff\x7fx",
		long('\x01', 5000), long('\xff', 100), long('\x00', 100),
	} {
		isNoBytes(t, s)
	}
	for _, n := range []uint64{65, 1 << 20, 1 << 40, 1 << 63, math.MaxUint64} { // how many, more than any memory holds
		head := string(binary.AppendUvarint(nil, n))
		for _, rest := range []string{"", "\x01\x01a", strings.Repeat("\x01\x01a", 65)} {
			isNoBytes(t, head+rest)
		}
	}
}

// ahead is what may stand ahead of a text within a batch: it ends where that text's length begins. The texts are keys and values, the first one and later ones.
func ahead() []string {
	return []string{
		"\x01\x00", "\x01\x01", // the first key, of a change with a value and of one without
		"\x02\x00", "\x40\x01",
		"\x01\x00\x01k", // the first value
		"\x01\x00\x40" + long('k', 64),
		"\x02\x01\x01k\x01", "\x02\x00\x01k\x01v\x00", // the second change's key
		"\x02\x01\x01k\x00\x01l", "\x02\x00\x01k\x80\x01" + long('v', 128) + "\x00\x01l", // the second change's value
	}
}

// short is so many bytes with a length ahead of them that tells more.
func short(there, more int) string {
	return string(binary.AppendUvarint(nil, uint64(there+more))) + long('a', there)
}

// A text of which some bytes are missing at the end: nothing stands behind those that are there, also in memory that they fill to its end.
func TestDecodeOfTextsThatEndTooSoon(t *testing.T) {
	isNoBytes(t, "\x01\x00\x0eaaaaaaaaaaaaa")
	sizes := map[int]int{} // by how many bytes a length has
	for _, begin := range ahead() {
		for there := range 300 {
			for _, more := range []int{1, 2, 3, 4, 9, 10, 11, 64, 1000, 1 << 20, math.MaxInt32} {
				s := begin + short(there, more)
				isNoBytes(t, s)
				isNoBytes(t, (s + "aaaa")[:len(s)]) // those behind it in its memory are not its own
				sizes[len(s)-len(begin)-there]++
			}
		}
	}
	if sizes[1] < 1000 || sizes[2] < 1000 {
		t.Errorf("lengths of one byte came %d times, of two %d times", sizes[1], sizes[2])
	}
}

// The same texts are right as soon as all their bytes are there.
func TestDecodeOfTextsThatEndInTime(t *testing.T) {
	found := 0
	for _, begin := range ahead() {
		for there := range 300 {
			for _, end := range []string{"", "\x00"} { // of a key the length of an empty value
				if isAsParsed(t, begin+short(there, 0)+end) {
					found++
				}
			}
		}
	}
	if found < 1000 {
		t.Errorf("only %d batches", found)
	}
}

// isAsParsed holds Decode against the test's own way to read.
func isAsParsed(t *testing.T, s string) bool {
	t.Helper()
	want, ok := parsed(s)
	if !ok {
		isNoBytes(t, s)
		return false
	}
	if l, e := Decode(s); e != api.OK || !slices.Equal(l, want) {
		t.Fatalf("Decode of %.500q = %.500v, %d, want %.500v", s, l, int(e), want)
	}
	return true
}

// All texts of up to 8 bytes, of bytes that a batch may begin with.
func TestDecodeOfAllShortTexts(t *testing.T) {
	found := 0
	var grow func(s string)
	grow = func(s string) {
		if isAsParsed(t, s) {
			found++
		}
		if len(s) == 8 {
			return
		}
		for _, c := range []byte{0, 1, 2, 128, 129} {
			grow(s + string([]byte{c}))
		}
	}
	grow("")
	if found < 500 {
		t.Errorf("only %d batches", found)
	}
}

func TestDecodeOfChangedBytes(t *testing.T) {
	for _, l := range batches() {
		s := bytesOf(l)
		step := 1 + len(s)/100 // of long ones the beginning, and then not each place
		for at := 0; at < len(s); at++ {
			isNoBytes(t, s[:at])
			for c := 1; c < 256; c++ {
				b := []byte(s)
				b[at] ^= byte(c)
				isAsParsed(t, string(b))
			}
			isAsParsed(t, s[:at]+s[at+1:])
			isAsParsed(t, s[:at]+"\x00"+s[at:])
			if at > 20 {
				at += step - 1
			}
		}
		for c := range 256 {
			isNoBytes(t, s+string([]byte{byte(c)}))
		}
		isNoBytes(t, s+s)
		isNoBytes(t, s+"\x01\x01a")
		isNoBytes(t, "\x00"+s)
	}
}

func TestBatchesByChance(t *testing.T) {
	chance := rand.New(rand.NewSource(1))
	told := map[api.Errno]int{}
	for range 6000 {
		l := anyChanges(chance)
		e := errorOf(l)
		told[e]++
		if e == api.OK {
			isBatch(t, l)
		} else {
			isNoBatch(t, l, e)
			isAsParsed(t, bytesOf(l))
		}
	}
	for _, e := range []api.Errno{api.OK, api.ErrArg, api.ErrBig} {
		if told[e] < 100 {
			t.Errorf("the error %d came %d times", int(e), told[e])
		}
	}
}

func anyChanges(chance *rand.Rand) []api.Put {
	count := []int{0, 1, 2, 5, 30, 64, 65, 70}[chance.Intn(8)]
	most := []int{2, 20, 100, 1024}[chance.Intn(4)]
	var l []api.Put
	for range count {
		key := make([]byte, 1+chance.Intn(64))
		value := make([]byte, chance.Intn(most+1))
		chance.Read(key)
		chance.Read(value)
		x := put(string(key), string(value))
		if chance.Intn(4) == 0 {
			x = gone(x.Key)
		}
		l = append(l, x)
	}
	if count > 0 && chance.Intn(8) == 0 {
		l[chance.Intn(count)] = wrongs()[chance.Intn(len(wrongs()))]
	}
	return l
}

// What is on a disk

func newDisk(t *testing.T, n int) *disk.Disk {
	t.Helper()
	d, e := disk.New(n)
	if e != api.OK {
		t.Fatalf("disk.New(%d) = %d", n, int(e))
	}
	return d
}

// looks is all that a disk tells: what is durable, what was written last, what waits, how much was done, whether it is up.
func looks(d *disk.Disk) string {
	c := d.Copy()
	var keep []int
	for _, w := range c.Waiting() {
		keep = append(keep, w.N)
	}
	c.Crash(keep)
	return fmt.Sprintln(d.Up(), d.Done(), d.Waiting()) + durable(d) + durable(c)
}

// durable is what a disk has behind any loss of power.
func durable(d *disk.Disk) string {
	return string(slices.Concat(d.Image()...))
}

// logged is a disk of n blocks with a log of these records.
func logged(t *testing.T, n int, recs ...string) *disk.Disk {
	t.Helper()
	d := newDisk(t, n)
	log, _ := wal.Open(d)
	for _, rec := range recs {
		if e := log.Add(rec); e != api.OK {
			t.Fatalf("Add of %.100q = %d", rec, int(e))
		}
	}
	if e := log.Sync(); e != api.OK {
		t.Fatalf("Sync = %d", int(e))
	}
	return d
}

// both is a database on a disk, and what it must be: keys, and another disk, to whose log all is done by hand that the chapter asks for.
type both struct {
	d, other *disk.Disk
	b        *DB
	log      *wal.Log
	keys     map[string]string
	did      string
}

// opened opens a database on a disk; nothing else has a hand on it.
func opened(t *testing.T, d *disk.Disk) *both {
	t.Helper()
	x := &both{d: d, other: d.Copy()}
	if e := x.open(t); e != api.OK {
		t.Fatalf("Open = %d", int(e))
	}
	return x
}

// run is a database on a disk of n blocks, behind these batches.
func run(t *testing.T, n int, batches ...[]api.Put) *both {
	t.Helper()
	x := opened(t, newDisk(t, n))
	for _, l := range batches {
		if e := x.do(t, l...); e != api.OK {
			t.Fatalf("Do behind%.1000s: %d", x.did, int(e))
		}
	}
	return x
}

// open opens the database anew, and fails where it is not what the disk's log has.
func (x *both) open(t *testing.T) api.Errno {
	t.Helper()
	x.did += " Open;"
	log, want := wal.Open(x.other)
	keys := map[string]string{}
	for _, rec := range log.Records() {
		l, ok := parsed(rec)
		if !ok {
			want = api.ErrForm
			break
		}
		keys = left(keys, l)
	}
	b, e := Open(x.d)
	if e != want || (b == nil) != (want != api.OK) {
		t.Fatalf("behind%.2000s: %v, %d, want %d", x.did, b, int(e), int(want))
	}
	if looks(x.d) != looks(x.other) {
		t.Fatalf("behind%.2000s: the disk is\n%.2000q, want\n%.2000q", x.did, looks(x.d), looks(x.other))
	}
	if e == api.OK {
		x.b, x.log, x.keys = b, log, keys
		x.isTold(t)
	}
	return e
}

// do does a batch, and fails where the answer, the database or the disk is not as the chapter says.
func (x *both) do(t *testing.T, l ...api.Put) api.Errno {
	t.Helper()
	x.did += fmt.Sprintf(" Do %.100v;", l)
	want, next := errorOf(l), left(x.keys, l)
	if want == api.OK {
		want = x.log.Add(bytesOf(l))
		switch want {
		case api.OK:
			want = x.log.Sync()
		case api.ErrFull:
			want = x.log.Reset(recsOf(next))
		}
	}
	if e := x.b.Do(l); e != want {
		t.Fatalf("the last of%.2000s answers %d, want %d", x.did, int(e), int(want))
	}
	if want == api.OK {
		x.keys = next
	}
	x.isTold(t)
	return want
}

func (x *both) compact(t *testing.T) api.Errno {
	t.Helper()
	x.did += " Compact;"
	want := x.log.Reset(recsOf(x.keys))
	if e := x.b.Compact(); e != want {
		t.Fatalf("the last of%.2000s answers %d, want %d", x.did, int(e), int(want))
	}
	x.isTold(t)
	return want
}

func (x *both) isTold(t *testing.T) {
	t.Helper()
	isKeys(t, x.b, x.keys, "behind"+x.did)
	if looks(x.d) != looks(x.other) {
		t.Fatalf("behind%.2000s: the disk is\n%.2000q, want\n%.2000q", x.did, looks(x.d), looks(x.other))
	}
}

func (x *both) fuse(n int) {
	x.did += fmt.Sprintf(" Fuse %d;", n)
	x.d.Fuse(n)
	x.other.Fuse(n)
}

func (x *both) crash(keep ...int) {
	x.did += fmt.Sprintf(" Crash %v;", keep)
	x.d.Crash(keep)
	x.other.Crash(keep)
}

// isKeys fails where a database has other keys, or other values, than these.
func isKeys(t *testing.T, b *DB, keys map[string]string, why string) {
	t.Helper()
	if got := b.Scan("", ""); !slices.Equal(got, putsOf(keys)) || b.Len() != len(keys) {
		t.Fatalf("%.2000s: Len %d, Scan %.1000v, want %.1000v", why, b.Len(), got, putsOf(keys))
	}
	for _, key := range append(slices.Collect(maps.Keys(keys)), "", "a", "b", "never", long('k', 64), long('k', 65)) {
		want, isThere := keys[key]
		if v, ok := b.Get(key); v != want || ok != isThere {
			t.Fatalf("%.2000s: Get(%q) = %.100q, %v, want %.100q, %v", why, key, v, ok, want, isThere)
		}
	}
}

// P11.2: Open

// isRefused fails where a disk is not refused by that error, or where anything is written.
func isRefused(t *testing.T, d *disk.Disk, want api.Errno) {
	t.Helper()
	ahead := looks(d)
	for range 2 {
		if b, e := Open(d); b != nil || e != want {
			t.Fatalf("Open = %v, %d, want %d", b, int(e), int(want))
		}
	}
	if looks(d) != ahead {
		t.Fatalf("Open changed the disk: %.1000q, want %.1000q", looks(d), ahead)
	}
}

func TestOpenOfNoDisk(t *testing.T) {
	refused, _ := disk.New(0)
	for _, d := range []*disk.Disk{nil, {}, new(disk.Disk), refused} {
		isRefused(t, d, api.ErrNil)
	}
}

func TestOpenOfADiskThatIsDown(t *testing.T) {
	for _, d := range []*disk.Disk{newDisk(t, 1), newDisk(t, 6), newDisk(t, 20), logged(t, 8, bytesOf(many(1, "x"))), logged(t, 8, "bad")} {
		d.Fuse(0)
		d.Flush()
		isRefused(t, d, api.ErrDown)
	}
}

func TestOpenOfTooFewBlocks(t *testing.T) {
	for n := 1; n <= 5; n++ {
		isRefused(t, newDisk(t, n), api.ErrArg)
	}
	opened(t, newDisk(t, 6))
}

func TestOpenOfNoughts(t *testing.T) {
	for _, n := range []int{6, 7, 20, 4096} {
		x := opened(t, newDisk(t, n)) // what is written is held against wal.Open
		if x.b.Len() != 0 || x.d.Done() != 2 {
			t.Errorf("Len %d, Done %d", x.b.Len(), x.d.Done())
		}
		x.open(t)
	}
}

func TestOpenOfNoughtsWithAFuse(t *testing.T) {
	for fuse := range 2 {
		for keep := range 2 {
			d := newDisk(t, 6)
			d.Fuse(fuse)
			if b, e := Open(d); b != nil || e != api.ErrDown {
				t.Fatalf("a fuse of %d: %v, %d", fuse, b, int(e))
			}
			d.Crash([]int{keep})
			x := opened(t, d)
			x.do(t, put("a", "x"))
			x.open(t)
		}
	}
}

func TestOpenOfNoLog(t *testing.T) {
	torn := func(d *disk.Disk, block int) *disk.Disk {
		image := d.Image()
		image[block][5]++
		out, _ := disk.Of(image)
		return out
	}
	d := logged(t, 8, bytesOf(many(2, "x")))
	isRefused(t, torn(d, 2), api.ErrSum)
	isRefused(t, torn(logged(t, 8, "bad"), 2), api.ErrSum) // ahead of that a record is no batch's
	isRefused(t, torn(torn(d, 0), 1), api.ErrSum)
	noise := slices.Repeat([][]byte{[]byte(long('x', 64))}, 8)
	d, _ = disk.Of(noise)
	isRefused(t, d, api.ErrSum)
}

func TestOpenOfOtherRecords(t *testing.T) {
	good, other := bytesOf([]api.Put{put("a", "x"), gone("b")}), bytesOf(many(64, "v"))
	for _, bad := range []string{"", "bad", "\x00", good[:8], good + "\x00", "\x81\x00\x01\x01a", "\x01\x02\x01a\x00", "\x41" + strings.Repeat("\x01\x01a", 65), bytesOf([]api.Put{put("", "x")}), bytesOf([]api.Put{put("a", long('v', 1025))}), bytesOf(just(4096))[:4095]} {
		isRefused(t, logged(t, 200, bad), api.ErrForm)
		isRefused(t, logged(t, 200, good, other, bad), api.ErrForm)
		isRefused(t, logged(t, 200, bad, good, other), api.ErrForm)
		isRefused(t, logged(t, 200, good, bad, other), api.ErrForm)
	}
}

func TestOpenOfBatches(t *testing.T) {
	for _, x := range []struct {
		batches [][]api.Put
		want    []api.Put
	}{
		{nil, nil},
		{[][]api.Put{{put("b", "1"), put("a", "2")}}, []api.Put{put("a", "2"), put("b", "1")}},
		{[][]api.Put{{put("a", "1")}, {put("a", "2")}}, []api.Put{put("a", "2")}},
		{[][]api.Put{{put("a", "1")}, {gone("a")}}, nil},
		{[][]api.Put{{gone("a")}, {put("a", "1")}}, []api.Put{put("a", "1")}},
		{[][]api.Put{{put("a", "1"), gone("a")}}, nil},
		{[][]api.Put{{gone("a"), put("a", "")}}, []api.Put{put("a", "")}},
		{[][]api.Put{{put("a", "1"), put("a", "2"), put("a", "3")}}, []api.Put{put("a", "3")}},
		{[][]api.Put{many(64, "v"), {gone("k010")}}, slices.Delete(many(64, "v"), 10, 11)},
		{batches(), nil},
	} {
		var recs []string
		keys := map[string]string{}
		for _, l := range x.batches {
			recs, keys = append(recs, bytesOf(l)), left(keys, l)
		}
		b := opened(t, logged(t, 1000, recs...))
		isKeys(t, b.b, keys, "Open")
		if x.want != nil && !slices.Equal(b.b.Scan("", ""), x.want) {
			t.Errorf("%v, want %v", b.b.Scan("", ""), x.want)
		}
	}
}

// P11.3: Do

func TestDoByHand(t *testing.T) {
	d := newDisk(t, 8)
	b, _ := Open(d)
	if e := b.Do([]api.Put{put("b", "1"), put("a", "2"), put("b", "3")}); e != api.OK || d.Done() != 6 { // a block, a flush, a head, a flush
		t.Fatalf("%d, Done %d", int(e), d.Done())
	}
	if v, ok := b.Get("b"); v != "3" || !ok || b.Len() != 2 {
		t.Errorf("%q, %v, Len %d", v, ok, b.Len())
	}
	if e := b.Do([]api.Put{gone("b"), gone("never")}); e != api.OK || d.Done() != 10 || b.Len() != 1 {
		t.Fatalf("%d, Done %d, Len %d", int(e), d.Done(), b.Len())
	}
	log, _ := wal.Open(d)
	want := []string{"\x03\x00\x01b\x011\x00\x01a\x012\x00\x01b\x013", "\x02\x01\x01b\x01\x05never"}
	if got := log.Records(); !slices.Equal(got, want) {
		t.Errorf("%q, want %q", got, want)
	}
}

func TestDoOfWhatMayBe(t *testing.T) {
	x := opened(t, newDisk(t, 4096))
	for _, l := range batches() {
		if e := x.do(t, l...); e != api.OK {
			t.Fatalf("%.100v: %d", l, int(e))
		}
	}
	x.open(t)
}

func TestDoIsRefused(t *testing.T) {
	refused := [][]api.Put{nil, {}, many(65, ""), just(4097), append(many(64, ""), put("", "")), append(just(4097), put("", ""))}
	for _, x := range wrongs() {
		refused = append(refused, []api.Put{x}, []api.Put{put("a", "new"), x}, []api.Put{gone("k001"), x, put("a", "new")})
	}
	for _, n := range []int{6, 200} {
		x := run(t, n, many(3, "v"))
		for _, l := range refused {
			if e := x.do(t, l...); e != errorOf(l) || e == api.OK || x.d.Done() != 6 {
				t.Fatalf("%.100v: %d, Done %d", l, int(e), x.d.Done())
			}
		}
		x.open(t)
		if x.b.Len() != 3 {
			t.Errorf("Len %d", x.b.Len())
		}
	}
}

// A disk of 6 blocks has 128 bytes for a log. A batch of one key of one byte has 13 bytes more than its value in a frame; one of a key that is gone 12.
func TestDoWithRoom(t *testing.T) {
	x := run(t, 6, []api.Put{put("a", long('1', 40))}) // of 53 bytes
	if e := x.do(t, put("b", long('2', 62))); e != api.OK || x.log.Room() != 0 || x.log.Used() != 128 {
		t.Fatalf("what has just room: %d, Room %d", int(e), x.log.Room())
	}
	y := run(t, 6, []api.Put{put("a", long('1', 40))})
	if e := y.do(t, put("b", long('2', 63))); e != api.OK || y.log.Used() != 120 { // both keys in one batch: 8 bytes of a frame, 1 of how many, 44 and 67
		t.Fatalf("what has room in the snapshot alone: %d, Used %d", int(e), y.log.Used())
	}
	if got := y.log.Records(); len(got) != 1 {
		t.Errorf("%q", got)
	}
}

func TestDoWithRoomBehindTheSnapshot(t *testing.T) {
	x := run(t, 6, []api.Put{put("a", long('1', 40))})
	if e := x.do(t, put("b", long('2', 71))); e != api.OK || x.log.Room() != 0 {
		t.Fatalf("what has just room in the snapshot: %d, Room %d", int(e), x.log.Room())
	}
	x.open(t)
	y := run(t, 6, []api.Put{put("a", long('1', 40))})
	done := y.d.Done()
	if e := y.do(t, put("b", long('2', 72))); e != api.ErrFull || y.d.Done() != done {
		t.Fatalf("one byte more: %d, Done %d", int(e), y.d.Done())
	}
	if e := y.do(t, put("b", long('2', 71))); e != api.OK {
		t.Fatalf("behind that: %d", int(e))
	}
	for i := range 100 { // values that take the place of others, each by way of a snapshot
		if e := y.do(t, put("b", long(byte('a'+i%26), i%72))); e != api.OK {
			t.Fatalf("%d: %d", i, int(e))
		}
	}
	if e := y.do(t, put("a", long('3', 115-len(y.keys["b"])-4))); e != api.OK {
		t.Fatalf("%d", int(e))
	}
}

func TestDoWithoutRoom(t *testing.T) {
	x := run(t, 6, []api.Put{put("a", long('1', 50)), put("b", long('2', 61))}) // of 128 bytes
	for _, l := range [][]api.Put{
		{put("c", "")}, {put("a", long('1', 51))}, {put("c", ""), put("c", "x")}, {gone("never"), put("c", "")}, many(64, ""), just(4096), {put("c", long('v', 1024))},
	} {
		if e := x.do(t, l...); e != api.ErrFull || x.d.Done() != 7 { // as many as Open and the first batch did
			t.Fatalf("%.100v: %d, Done %d", l, int(e), x.d.Done())
		}
	}
	x.open(t)
	for _, l := range [][]api.Put{ // there is room for what leaves no more than there was, however many bytes it has
		{gone("never")}, {put("a", long('3', 50))}, append(many(1, long('x', 1000)), gone("k000")), {gone("b")}, {put("c", "x")}, {gone("a"), gone("c")}, {put("z", long('v', 115))}, {gone("z")},
	} {
		if e := x.do(t, l...); e != api.OK {
			t.Fatalf("%.100v: %d", l, int(e))
		}
		x.open(t)
	}
	if x.b.Len() != 0 {
		t.Errorf("Len %d", x.b.Len())
	}
}

// A snapshot's batches have 64 changes at most, and 4096 bytes at most, whichever comes first.
func TestASnapshotOfMoreThanOneBatch(t *testing.T) {
	for _, x := range []struct {
		puts []api.Put
		want []int // changes of the snapshot's batches
	}{
		{many(63, ""), []int{63}},
		{many(64, ""), []int{64}},
		{many(65, ""), []int{64, 1}},
		{many(128, "v"), []int{64, 64}},
		{many(129, "v"), []int{64, 64, 1}},
		{many(64, long('v', 56)), []int{64}},    // 63 bytes each, and one
		{many(64, long('v', 57)), []int{63, 1}}, // 64 bytes each, and one: 4097
		{many(7, long('v', 1024)), []int{3, 3, 1}},
		{many(4, long('v', 1015)), []int{4}},
		{many(4, long('v', 1016)), []int{3, 1}}, // 1024 bytes each, and one: 4097
		{many(9, long('v', 900)), []int{4, 4, 1}},
		{append(many(70, ""), put("z", long('v', 1024))), []int{64, 7}},
		{append(many(3, long('v', 1024)), put("z", long('v', 1000)), put("zz", "")), []int{3, 2}},
		{append(many(3, long('v', 1024)), put("z", long('v', 900)), put("zz", "")), []int{5}},
	} {
		b := opened(t, newDisk(t, 1000))
		for i := range x.puts { // from the last one on, each alone
			b.do(t, x.puts[len(x.puts)-1-i])
		}
		b.compact(t)
		log, _ := wal.Open(b.d)
		var got []int
		for _, rec := range log.Records() {
			l, _ := parsed(rec)
			got = append(got, len(l))
		}
		if !slices.Equal(got, x.want) {
			t.Errorf("of %d changes: %v, want %v", len(x.puts), got, x.want)
		}
		b.open(t)
		isKeys(t, b.b, left(nil, x.puts), "Compact")
	}
}

// The same by their bytes alone: of just 4096, and of one more.
func TestASnapshotOfJustABatch(t *testing.T) {
	for n, want := range map[int]int{4095: 1, 4096: 1, 4097: 2, 4098: 2} {
		l := slices.DeleteFunc(just(n+3), func(x api.Put) bool { return x.Gone }) // the one that is gone has three bytes
		if size := len(bytesOf(l)); size != n {
			t.Fatalf("%d bytes, want %d", size, n)
		}
		x := run(t, 400, l[:2], l[2:])
		x.compact(t)
		if got := x.log.Records(); len(got) != want {
			t.Errorf("of %d bytes: %d records", n, len(got))
		}
		x.open(t)
	}
}

// Do itself lays such snapshots when its log is full.
func TestDoLaysASnapshotOfMoreThanOneBatch(t *testing.T) {
	x := run(t, 120, many(60, long('v', 10)), many(60, long('w', 30)))
	resets := 0
	for i := range 60 {
		area := x.log.Used()
		if e := x.do(t, put(fmt.Sprintf("n%02d", i%20), long('x', i))); e != api.OK {
			t.Fatalf("%d: %d", i, int(e))
		}
		if x.log.Used() < area {
			resets++
			if n := len(x.log.Records()); n < 2 {
				t.Errorf("a snapshot of %d batches", n)
			}
		}
	}
	if resets < 2 {
		t.Errorf("%d snapshots", resets)
	}
	x.open(t)
}

func TestKeysThatGoAndComeAgain(t *testing.T) {
	x := run(t, 10)
	for i := range 200 {
		key := string([]byte{byte('a' + i*7%5)})
		if _, isThere := x.keys[key]; isThere && i%3 > 0 {
			x.do(t, gone(key))
		} else {
			x.do(t, put(key, fmt.Sprint(i)))
		}
		if i%20 == 19 {
			x.open(t)
		}
	}
}

// P11.4: Compact

func TestCompactByHand(t *testing.T) {
	d := newDisk(t, 8)
	b, _ := Open(d)
	if e := b.Compact(); e != api.OK || d.Done() != 5 || b.Len() != 0 { // a flush, a head, a flush
		t.Fatalf("of no keys: %d, Done %d", int(e), d.Done())
	}
	b.Do([]api.Put{put("b", "1"), put("c", "2")})
	b.Do([]api.Put{put("a", "3"), gone("c")})
	if e := b.Compact(); e != api.OK || d.Done() != 17 { // a block, a flush, a head, a flush
		t.Fatalf("%d, Done %d", int(e), d.Done())
	}
	log, _ := wal.Open(d)
	if got := log.Records(); !slices.Equal(got, []string{"\x02\x00\x01a\x013\x00\x01b\x011"}) {
		t.Errorf("%q", got)
	}
	isKeys(t, b, map[string]string{"a": "3", "b": "1"}, "Compact")
	b.Do([]api.Put{gone("a"), gone("b")})
	b.Compact()
	if log, _ = wal.Open(d); len(log.Records()) != 0 {
		t.Errorf("%q", log.Records())
	}
}

func TestCompact(t *testing.T) {
	for _, past := range [][][]api.Put{nil, {many(3, "v")}, {many(64, "v"), many(64, "w")}, batches(), {many(64, ""), {gone("k000")}, just(4000)}} {
		x := run(t, 2000, past...)
		for range 3 { // again and again, into both areas
			if e := x.compact(t); e != api.OK {
				t.Fatalf("%d", int(e))
			}
			x.do(t, put("more", "x"))
			x.open(t)
		}
	}
}

// Eight batches of just 4096 bytes fill a disk of 1028 blocks to the last byte. Rising by their keys the same changes go into ten batches only, which have no room.
func TestCompactWithoutRoom(t *testing.T) {
	x := opened(t, newDisk(t, 1028))
	for i := range 8 {
		var l []api.Put
		for k := range 3 {
			l = append(l, put(fmt.Sprintf("a%d%d", i, k)+long('k', 61), long('v', 1024))) // of 1092 bytes
		}
		l = append(l, put(fmt.Sprintf("b%d", i)+long('k', 62), long('v', 751))) // of 819 bytes
		if e := x.do(t, l...); e != api.OK || x.log.Used() != 4104*(i+1) {
			t.Fatalf("%d: %d, Used %d", i, int(e), x.log.Used())
		}
	}
	done := x.d.Done()
	if e := x.compact(t); e != api.ErrFull || x.log.Room() != 0 || len(recsOf(x.keys)) != 10 {
		t.Fatalf("%d, Room %d, %d records", int(e), x.log.Room(), len(recsOf(x.keys)))
	}
	for _, l := range [][]api.Put{{gone("never")}, {put("c", "")}} {
		if e := x.do(t, l...); e != api.ErrFull || x.d.Done() != done {
			t.Fatalf("%d, Done %d", int(e), x.d.Done())
		}
	}
	x.open(t)
	if e := x.do(t, gone("b7"+long('k', 62))); e != api.OK || x.compact(t) != api.OK {
		t.Fatalf("%d", int(e))
	}
	x.open(t)
}

// P11.5: Get, Scan, Len

func TestGet(t *testing.T) {
	x := run(t, 20, []api.Put{put("a", "1"), put("b", ""), put("c", "3"), put("\x00", "4"), put(long('k', 64), "5")}, []api.Put{gone("c"), put("a", "6")})
	for key, want := range map[string]struct {
		value string
		ok    bool
	}{"a": {"6", true}, "b": {"", true}, "c": {}, "\x00": {"4", true}, long('k', 64): {"5", true}, long('k', 63): {}, long('k', 65): {}, "": {}, "ab": {}, "A": {}, "a\x00": {}, "never": {}, long('k', 100000): {}} {
		if v, ok := x.b.Get(key); v != want.value || ok != want.ok {
			t.Errorf("Get(%.100q) = %q, %v, want %v", key, v, ok, want)
		}
	}
	if x.b.Len() != 4 {
		t.Errorf("Len %d", x.b.Len())
	}
}

func TestScan(t *testing.T) {
	keys := []string{"\x00", "A", "a", "a\x00", "a\x00b", "aa", "ab", "b", "\xff", "\xff\xff"}
	x := run(t, 40)
	for _, i := range rand.New(rand.NewSource(5)).Perm(len(keys)) {
		x.do(t, put(keys[i], fmt.Sprint(i)))
	}
	x.do(t, put("gone", "x"), gone("gone"))
	all := append(slices.Clone(keys), "", "gone", "aaa", "\xff\xff\xff", "\x00\x00", "`", long('z', 100))
	for _, from := range all {
		for _, to := range all {
			var want []api.Put
			for i, key := range keys {
				if strings.Compare(key, from) >= 0 && (to == "" || strings.Compare(key, to) < 0) {
					want = append(want, put(key, fmt.Sprint(i)))
				}
			}
			if got := x.b.Scan(from, to); !slices.Equal(got, want) {
				t.Errorf("Scan(%q, %q) = %v, want %v", from, to, got, want)
			}
		}
	}
	for _, y := range []struct {
		from, to string
		want     []string
	}{{"a", "b", []string{"a", "a\x00", "a\x00b", "aa", "ab"}}, {"a", "a", nil}, {"b", "a", nil}, {"b", "", []string{"b", "\xff", "\xff\xff"}}, {"", "a", []string{"\x00", "A"}}, {"", "\x00", nil}, {"\xff\xff\xff", "", nil}, {"", "", keys}} {
		var got []string
		for _, p := range x.b.Scan(y.from, y.to) {
			got = append(got, p.Key)
		}
		if !slices.Equal(got, y.want) {
			t.Errorf("Scan(%q, %q) = %q, want %q", y.from, y.to, got, y.want)
		}
	}
}

func TestLen(t *testing.T) {
	x := opened(t, newDisk(t, 200))
	for i, y := range []struct {
		l    []api.Put
		want int
	}{
		{[]api.Put{put("a", "")}, 1}, {[]api.Put{put("a", "x")}, 1}, {[]api.Put{gone("b")}, 1}, {[]api.Put{put("b", "x"), put("c", "x")}, 3},
		{[]api.Put{gone("a")}, 2}, {many(64, ""), 66}, {[]api.Put{gone("b"), gone("c"), put("d", "")}, 65}, {[]api.Put{put("d", ""), gone("d")}, 64},
	} {
		if e := x.do(t, y.l...); e != api.OK || x.b.Len() != y.want {
			t.Errorf("%d: %d, Len %d, want %d", i, int(e), x.b.Len(), y.want)
		}
	}
	if b := opened(t, newDisk(t, 6)).b; b.Len() != 0 || len(b.Scan("", "")) != 0 {
		t.Errorf("of no batch: Len %d", b.Len())
	}
}

// The rule of objects that no call made

func TestNoDB(t *testing.T) {
	refused, _ := Open(nil)
	for name, b := range map[string]*DB{"nil": nil, "plain": {}, "new": new(DB), "of Open": refused} {
		for range 2 { // the first round has changed nothing
			for _, l := range [][]api.Put{nil, {put("a", "x")}, {put("", "")}, many(65, ""), just(4097)} {
				if e := b.Do(l); e != api.ErrNil {
					t.Errorf("%s: Do of %.50v = %d", name, l, int(e))
				}
			}
			if e := b.Compact(); e != api.ErrNil {
				t.Errorf("%s: Compact = %d", name, int(e))
			}
			if v, ok := b.Get("a"); v != "" || ok || len(b.Scan("", "")) != 0 || b.Len() != 0 {
				t.Errorf("%s: %q, %v, %v, %d", name, v, ok, b.Scan("", ""), b.Len())
			}
		}
	}
}

// The errors of the disk

// isLost fails where a database whose disk failed takes anything more, or tells anything else than it did.
func isLost(t *testing.T, x *both) {
	t.Helper()
	for range 2 {
		if e := x.do(t, put("lost", "x")); e != api.ErrDown {
			t.Fatalf("behind%.1000s: Do = %d", x.did, int(e))
		}
		if e := x.do(t, just(4096)...); e != api.ErrDown { // for which there is no room either
			t.Fatalf("behind%.1000s: Do without room = %d", x.did, int(e))
		}
		if e := x.compact(t); e != api.ErrDown {
			t.Fatalf("behind%.1000s: Compact = %d", x.did, int(e))
		}
		if e := x.do(t); e != api.ErrArg { // Encode's error is named ahead of the log's
			t.Fatalf("behind%.1000s: Do of nothing = %d", x.did, int(e))
		}
	}
}

// deed is a call that writes: Do of changes, or, of none, Compact.
type deed []api.Put

func (l deed) on(t *testing.T, x *both) api.Errno {
	t.Helper()
	if len(l) == 0 {
		return x.compact(t)
	}
	return x.do(t, l...)
}

// What is told does not change when a Write or a Flush fails, and stays so until the database is opened anew, also when the disk is up again.
func TestErrorsOfTheDisk(t *testing.T) {
	pasts := [][][]api.Put{nil, {{put("a", "1"), put("b", "2")}}, {{put("a", long('1', 40)), put("b", long('2', 60))}}, {{put("a", long('1', 100))}}, {{put("a", "1")}, {gone("a")}}}
	deeds := []deed{nil, {put("a", "3"), gone("b")}, {put("c", long('3', 70))}, {put("a", long('4', 110))}, {gone("a")}}
	for _, past := range pasts {
		for _, l := range deeds {
			steps := 0
			for fuse := 0; ; fuse++ {
				x := run(t, 9, past...)
				x.fuse(fuse)
				if e := l.on(t, x); e != api.ErrDown {
					break
				}
				steps++
				isLost(t, x)
				x.crash(2, 2, 2)
				isLost(t, x)
				if e := x.open(t); e != api.OK {
					t.Fatalf("behind%s: Open = %d", x.did, int(e))
				}
				x.do(t, put("n", "1"))
			}
			if steps < 3 {
				t.Errorf("behind %v: %v failed at %d places", past, l, steps)
			}
		}
	}
}

// The disk went down by another hand: that there is no room is told ahead of it, as the log tells it.
func TestADiskThatIsDown(t *testing.T) {
	down := func() *both {
		x := run(t, 6, []api.Put{put("a", "1")})
		x.fuse(0)
		x.d.Flush()
		x.other.Flush()
		if e := x.do(t, put("b", long('2', 200))); e != api.ErrFull {
			t.Fatalf("without room: %d", int(e))
		}
		if e := x.do(t, put("", "")); e != api.ErrArg {
			t.Fatalf("of what may not be: %d", int(e))
		}
		return x
	}
	for _, l := range []deed{nil, {put("b", "2")}, {put("a", long('3', 110))}} {
		x := down()
		if e := l.on(t, x); e != api.ErrDown {
			t.Fatalf("%v: %d", l, int(e))
		}
		isLost(t, x)
	}
}

// P11.6

// choices are all ways to keep some of the writes that wait.
func choices(waiting []api.Wait) [][]int {
	out := [][]int{nil}
	for _, w := range waiting {
		var longer [][]int
		for _, keep := range out {
			for m := range w.N + 1 {
				longer = append(longer, append(slices.Clone(keep), m))
			}
		}
		out = longer
	}
	return out
}

// explorer looks at all disks that a row of deeds can leave, wherever power is lost; deeds are those that may be done with so many rows still to come.
type explorer struct {
	deeds  func(depth int) []deed
	seen   map[string]bool
	losses int
	olds   int // how often what was under way was not there
	nexts  int // how often it was
}

// from goes on from a disk whose database has these keys.
func (x *explorer) from(t *testing.T, d *disk.Disk, keys map[string]string, depth int) {
	t.Helper()
	key := fmt.Sprint(depth) + durable(d)
	if depth == 0 || x.seen[key] {
		return
	}
	x.seen[key] = true
	for _, l := range x.deeds(depth) {
		next := left(keys, l)
		for fuse := 0; ; fuse++ {
			y := opened(t, d.Copy())
			isKeys(t, y.b, keys, "Open")
			y.fuse(fuse)
			e := l.on(t, y)
			if e != api.ErrDown {
				if e != api.OK {
					next = keys
				}
				y.crash() // takes the fuse away; nothing waits
				isKeys(t, y.b, next, "behind"+y.did)
				x.from(t, y.d, next, depth-1)
				break
			}
			for _, keep := range choices(y.d.Waiting()) {
				x.lose(t, y.d, keep, keys, next, depth)
			}
		}
	}
}

// lose takes the power away, keeping these writes: the keys are the old ones or the next ones, also behind another loss within Open.
func (x *explorer) lose(t *testing.T, d *disk.Disk, keep []int, old, next map[string]string, depth int) {
	t.Helper()
	x.losses++
	d = d.Copy()
	d.Crash(keep)
	found := old
	for _, why := range []string{"and opened", "and lost it again"} {
		d.Fuse(0)
		b, e := Open(d)
		if e != api.OK {
			t.Fatalf("kept %v, %s: Open = %d", keep, why, int(e))
		}
		if why == "and opened" && !slices.Equal(b.Scan("", ""), putsOf(old)) {
			found = next
		}
		isKeys(t, b, found, fmt.Sprintf("kept %v, %s", keep, why))
		d.Flush() // goes down, if it did not within Open
		d.Crash(nil)
	}
	if maps.Equal(found, old) {
		x.olds++
	} else {
		x.nexts++
	}
	x.from(t, d, found, depth-1)
}

func TestEachLossOfPower(t *testing.T) {
	for _, n := range []int{6, 9} { // logs of 128 and of 192 bytes
		x := &explorer{seen: map[string]bool{}, deeds: func(depth int) []deed {
			c := byte('0' + depth)
			return []deed{
				nil,
				{put("a", string(c))},
				{put("a", long(c, 50)), put("b", long(c, 5))},
				{put("b", long(c, 100))},
				{put("c", long(c, 30)), gone("a"), gone("b")},
				{gone("c")},
			}
		}}
		x.from(t, newDisk(t, n), nil, 4)
		if x.losses < 10000 || x.olds < 1000 || x.nexts < 1000 {
			t.Errorf("of %d blocks: %d losses, %d of them without what was under way, %d with it", n, x.losses, x.olds, x.nexts)
		}
	}
}

// Snapshots of more than one batch, of many blocks: the whole of them is there, or nothing.
func TestEachLossOfPowerWithLongSnapshots(t *testing.T) {
	x := &explorer{seen: map[string]bool{}, deeds: func(int) []deed {
		return []deed{nil, {put("k001", long('x', 20)), gone("k050"), put("z", "1")}, {put("z", long('z', 70))}, {put("z", long('z', 90))}}
	}}
	y := opened(t, newDisk(t, 20)) // logs of 576 bytes
	for _, l := range [][]api.Put{many(64, ""), {put("y", "1"), put("x", "2")}, nil, {put("y", long('y', 20))}, {put("y", long('y', 40))}} {
		if e := deed(l).on(t, y); e != api.OK {
			t.Fatal(int(e))
		}
		x.from(t, y.d.Copy(), y.keys, 1)
	}
	if x.losses < 1000 || x.olds < 100 || x.nexts < 12 { // the next keys are there only where their head was kept
		t.Errorf("%d losses, %d of them without what was under way, %d with it", x.losses, x.olds, x.nexts)
	}
}

// The first Open writes, and may lose its power; so may the one behind it.
func TestEachLossOfPowerWithinOpen(t *testing.T) {
	var from func(d *disk.Disk, depth int)
	from = func(d *disk.Disk, depth int) {
		for fuse := range 3 {
			c := d.Copy()
			c.Fuse(fuse)
			b, e := Open(c)
			if (b == nil) != (e != api.OK) || e != api.OK && e != api.ErrDown {
				t.Fatalf("a fuse of %d: %v, %d", fuse, b, int(e))
			}
			for _, keep := range choices(c.Waiting()) {
				again := c.Copy()
				again.Crash(keep)
				y := opened(t, again.Copy())
				isKeys(t, y.b, nil, "Open")
				y.do(t, put("a", "x"))
				y.crash()
				y.open(t)
				isKeys(t, y.b, map[string]string{"a": "x"}, "Open")
				if depth > 1 {
					from(again, depth-1)
				}
			}
		}
	}
	from(newDisk(t, 6), 3)
}

// Batches, fuses, losses of power and openings, in any order, on disks of all sizes.
func TestRowsByChance(t *testing.T) {
	chance := rand.New(rand.NewSource(11))
	for round := range 160 {
		x := opened(t, newDisk(t, []int{6, 7, 8, 12, 20, 60, 200, 800}[round%8]))
		for range 60 {
			x.chance(t, chance)
			x.did = ""
		}
	}
}

// chance does one thing, whichever it is; what is lost by it is what was under way, or nothing.
func (x *both) chance(t *testing.T, chance *rand.Rand) {
	t.Helper()
	if x.d.Up() && chance.Intn(5) == 0 {
		x.fuse(chance.Intn(12))
	}
	var l deed
	if chance.Intn(6) > 0 {
		l = x.anyBatch(chance)
	}
	old, next := x.keys, left(x.keys, l)
	e := l.on(t, x)
	if e != api.ErrDown && chance.Intn(8) > 0 {
		return
	}
	if chance.Intn(3) == 0 && e == api.ErrDown {
		isLost(t, x)
	}
	var keep []int
	for range x.d.Waiting() {
		keep = append(keep, chance.Intn(3))
	}
	x.crash(keep...)
	if e := x.open(t); e != api.OK {
		t.Fatalf("behind%s: Open = %d", x.did, int(e))
	}
	if isNext := maps.Equal(x.keys, next); e == api.OK && !isNext || !isNext && !maps.Equal(x.keys, old) || e != api.OK && e != api.ErrDown && !maps.Equal(x.keys, old) {
		t.Fatalf("behind%s: %.500v, want %.500v or %.500v", x.did, x.keys, old, next)
	}
}

// anyBatch is a batch of keys of which many come more than once.
func (x *both) anyBatch(chance *rand.Rand) []api.Put {
	count := 1 + chance.Intn([]int{1, 3, 10, 64}[chance.Intn(4)])
	most := min(900, x.log.Room()+x.log.Used())/count + 1
	var l []api.Put
	for range count {
		key := fmt.Sprint(chance.Intn(3 * count))
		if chance.Intn(3) == 0 {
			l = append(l, gone(key))
		} else {
			l = append(l, put(key, long(byte('a'+chance.Intn(26)), chance.Intn(most))))
		}
	}
	return l
}

// Rule 5: memory

func TestWhatIsHandedInIsNotKept(t *testing.T) {
	for _, n := range []int{20, 6} { // in the log, and by way of a snapshot
		x := run(t, n, []api.Put{put("a", long('0', 80))})
		key, value := []byte("a"), []byte("value")
		memory := []api.Put{put(string(key), string(value)), put("b", "2"), gone("c"), put("behind", "x"), put("behind it", "y")}
		l := memory[:3]
		given := slices.Clone(memory)
		x.do(t, l...)
		x.compact(t)
		if e := x.b.Do(l); e != api.OK || !slices.Equal(memory, given) {
			t.Fatalf("%d, %v, want %v", int(e), memory, given)
		}
		for i := range memory {
			memory[i] = put("changed", "changed")
		}
		key[0], value[0] = 'z', 'z'
		want := map[string]string{"a": "value", "b": "2"}
		isKeys(t, x.b, want, "what was handed in was changed")
		if e := x.b.Compact(); e != api.OK {
			t.Fatal(int(e))
		}
		b, _ := Open(x.d)
		isKeys(t, b, want, "opened")
	}
}

func TestWhatEncodeIsGivenIsNotChanged(t *testing.T) {
	memory := append(many(3, "x"), put("", "behind"), put("a", long('v', 1025)))
	given := slices.Clone(memory)
	if s, e := Encode(memory[:3]); e != api.OK || s != bytesOf(many(3, "x")) || !slices.Equal(memory, given) {
		t.Errorf("%q, %d, %v", s, int(e), memory)
	}
}

func TestWhatIsToldIsNew(t *testing.T) {
	x := run(t, 20, []api.Put{put("a", "1"), put("b", "2"), put("c", "3")})
	keys := maps.Clone(x.keys)
	spoil := func(l []api.Put) {
		l = append(l, put("q", "q"))
		for i := range l[:cap(l)] {
			l[:cap(l)][i] = put("spoilt", "spoilt")
		}
	}
	first, second := x.b.Scan("", ""), x.b.Scan("", "")
	part := x.b.Scan("a", "c")
	spoil(first)
	spoil(part)
	if !slices.Equal(second, putsOf(keys)) {
		t.Errorf("%v", second)
	}
	isKeys(t, x.b, keys, "what was told was changed")
	x.b.Do([]api.Put{gone("a"), put("b", "new"), put("d", "new")})
	x.b.Compact()
	if !slices.Equal(second, putsOf(keys)) {
		t.Errorf("what was told was changed: %v", second)
	}
	s := bytesOf(second)
	one, _ := Decode(s)
	two, _ := Decode(s)
	spoil(one)
	if !slices.Equal(two, second) {
		t.Errorf("%v", two)
	}
}

// Two databases of two disks have nothing in common, also where one disk is the other's copy.
func TestDatabasesOfCopies(t *testing.T) {
	x := run(t, 20, []api.Put{put("a", "1")})
	y := opened(t, x.d.Copy())
	x.do(t, put("b", "2"))
	y.isTold(t)
	y.do(t, gone("a"), put("c", "3"))
	y.compact(t)
	x.isTold(t)
	x.open(t)
	y.open(t)
}
