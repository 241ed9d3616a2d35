package frame

import (
	"bytes"
	"encoding/binary"
	"hash/crc32"
	"math"
	"math/rand"
	"slices"
	"testing"

	"veneer/api"
)

// some is n bytes, always the same ones for a seed.
func some(seed int64, n int) []byte {
	out := make([]byte, n)
	rand.New(rand.NewSource(seed)).Read(out)
	return out
}

// frameOf is a frame as the chapter tells it, of a body of any length.
func frameOf(body []byte) []byte {
	out := binary.LittleEndian.AppendUint32(nil, uint32(len(body)))
	out = append(out, body...)
	return binary.LittleEndian.AppendUint32(out, crc32.ChecksumIEEE(out))
}

// behind is what may stand behind a frame: nothing, bytes of all kinds, another frame, a piece of one.
func behind() [][]byte {
	return [][]byte{nil, {0}, {7}, {255}, make([]byte, 8), bytes.Repeat([]byte{255}, 9), some(1, 50), frameOf(nil), frameOf([]byte("hi")), frameOf([]byte("hi"))[:9]}
}

// isRead fails where b does not begin with the frame of body.
func isRead(t *testing.T, b, body []byte) {
	t.Helper()
	got, n, e := Read(b)
	if !bytes.Equal(got, body) || n != len(body)+8 || e != api.OK {
		t.Fatalf("Read of %d bytes, with a body of %d, = %d bytes, %d, %d", len(b), len(body), len(got), n, int(e))
	}
}

// isRefused fails where b is not refused by that error, with nothing told beside it.
func isRefused(t *testing.T, b []byte, want api.Errno) {
	t.Helper()
	if body, n, e := Read(b); len(body) != 0 || n != 0 || e != want {
		t.Fatalf("Read(%x..), %d bytes, = %v, %d, %d, want %d", b[:min(len(b), 16)], len(b), body, n, int(e), int(want))
	}
}

// areTold fails where All does not tell just these bodies, this place and this error.
func areTold(t *testing.T, b []byte, bodies [][]byte, place int, want api.Errno) {
	t.Helper()
	got, n, e := All(b)
	if !slices.EqualFunc(got, bodies, bytes.Equal) || n != place || e != want {
		t.Fatalf("All of %d bytes = %d bodies, %d, %d, want %d, %d, %d", len(b), len(got), n, int(e), len(bodies), place, int(want))
	}
}

// P4.1

func TestFrameOfKnown(t *testing.T) {
	for _, x := range []struct{ body, want string }{
		{"", "\x00\x00\x00\x00\x1c\xdf\x44\x21"},
		{"hi", "\x02\x00\x00\x00hi\xfb\x38\x40\x65"},
	} {
		if got, e := Frame([]byte(x.body)); string(got) != x.want || e != api.OK {
			t.Errorf("Frame(%q) = %x, %d, want %x", x.body, got, int(e), x.want)
		}
	}
}

func TestFrameOfNothing(t *testing.T) {
	for _, body := range [][]byte{nil, {}, make([]byte, 0, 10)} {
		if got, e := Frame(body); !bytes.Equal(got, frameOf(nil)) || e != api.OK {
			t.Errorf("Frame(%v) = %x, %d", body, got, int(e))
		}
	}
}

func TestFrameOfEachLength(t *testing.T) {
	for n := range api.MaxFrame + 1 {
		body := some(int64(n), n)
		if got, e := Frame(body); !bytes.Equal(got, frameOf(body)) || e != api.OK {
			t.Fatalf("Frame of %d bytes = %x, %d", n, got, int(e))
		}
	}
}

func TestFrameOfTooMany(t *testing.T) {
	for _, n := range []int{4097, 4098, 5000, 8192, 65535, 65536, 65537, 1 << 24} {
		if got, e := Frame(make([]byte, n)); len(got) != 0 || e != api.ErrBig {
			t.Errorf("Frame of %d bytes = %d bytes, %d", n, len(got), int(e))
		}
	}
}

// P4.2

func TestReadOfKnown(t *testing.T) {
	isRead(t, []byte("\x00\x00\x00\x00\x1c\xdf\x44\x21"), nil)
	isRead(t, []byte("\x02\x00\x00\x00hi\xfb\x38\x40\x65"), []byte("hi"))
	isRefused(t, []byte{1, 0}, api.ErrEnd)
	isRefused(t, []byte{1, 16, 0, 0}, api.ErrBig)
}

func TestReadOfFewerThanFour(t *testing.T) {
	for _, fill := range []byte{0, 1, 255} {
		for n := range 4 {
			isRefused(t, bytes.Repeat([]byte{fill}, n), api.ErrEnd)
		}
	}
	isRefused(t, nil, api.ErrEnd)
}

func TestReadOfLengthsAbove(t *testing.T) {
	lengths := []uint32{4097, 4098, 5000, 0xffff, 0x10000, 0x1000000, 0x1000004, math.MaxInt32, 1 << 31, math.MaxUint32 - 3, math.MaxUint32}
	for shift := 13; shift < 32; shift++ {
		lengths = append(lengths, 1<<shift, 1<<shift+4)
	}
	for _, length := range lengths {
		b := binary.LittleEndian.AppendUint32(nil, length)
		for _, n := range []int{0, 1, 3, 4, 5, 100, 4096, 4100, 4101, 9000} {
			isRefused(t, append(slices.Clone(b), make([]byte, n)...), api.ErrBig)
		}
	}
}

func TestReadOfABodyAbove(t *testing.T) {
	// its length and its sum are right, but for the limit
	for _, n := range []int{4097, 4098, 65536} {
		whole := frameOf(some(int64(n), n))
		isRefused(t, whole, api.ErrBig)
		isRefused(t, append(whole, 7), api.ErrBig)
		isRefused(t, whole[:len(whole)-1], api.ErrBig)
		isRefused(t, whole[:4], api.ErrBig)
		isRefused(t, whole[:3], api.ErrEnd)
		whole[len(whole)-1] ^= 1
		isRefused(t, whole, api.ErrBig)
	}
}

func TestReadOfTheGreatestBody(t *testing.T) {
	for _, n := range []int{4095, 4096} {
		body := some(int64(n), n)
		isRead(t, frameOf(body), body)
	}
}

func TestReadOfAFrameCutOff(t *testing.T) {
	for _, n := range []int{0, 1, 2, 3, 4, 5, 8, 63, 64, 255, 256, 257, 300, 4095, 4096} {
		whole := frameOf(some(int64(n), n))
		for cut := range len(whole) {
			isRefused(t, whole[:cut:cut], api.ErrEnd)
			isRefused(t, whole[:cut], api.ErrEnd) // what lies behind the end, in the same memory, is none of it
		}
	}
}

func TestReadOfAnotherSum(t *testing.T) {
	for _, n := range []int{0, 1, 2, 5, 100, 4096} {
		body := some(int64(n), n)
		for place := range 4 {
			for _, other := range []byte{1, 128, 255} {
				whole := frameOf(body)
				whole[4+n+place] ^= other
				isRefused(t, whole, api.ErrSum)
				isRefused(t, append(whole, frameOf(nil)...), api.ErrSum)
			}
		}
	}
}

func TestReadOfSumsOfOtherKinds(t *testing.T) {
	body := []byte("hello")
	length := binary.LittleEndian.AppendUint32(nil, 5)
	inside := append(slices.Clone(length), body...)
	isRefused(t, binary.BigEndian.AppendUint32(slices.Clone(inside), crc32.ChecksumIEEE(inside)), api.ErrSum)
	isRefused(t, binary.LittleEndian.AppendUint32(slices.Clone(inside), crc32.ChecksumIEEE(body)), api.ErrSum) // without the length
	isRefused(t, binary.LittleEndian.AppendUint32(slices.Clone(inside), 0), api.ErrSum)
	isRefused(t, make([]byte, 8), api.ErrSum) // zeros are no frame of nothing
	isRefused(t, make([]byte, 5000), api.ErrSum)
}

func TestReadDoesNotLookBehind(t *testing.T) {
	for _, n := range []int{0, 1, 2, 30, 4096} {
		body := some(int64(n), n)
		for _, x := range behind() {
			isRead(t, append(frameOf(body), x...), body)
		}
		isRead(t, append(frameOf(body), some(2, 10000)...), body)
	}
}

// P4.3

func TestAllOfNothing(t *testing.T) {
	areTold(t, nil, nil, 0, api.OK)
	areTold(t, []byte{}, nil, 0, api.OK)
	areTold(t, frameOf(nil)[:0], nil, 0, api.OK)
}

func TestAllOfOne(t *testing.T) {
	for _, n := range []int{0, 1, 2, 30, 4096} {
		body := some(int64(n), n)
		areTold(t, frameOf(body), [][]byte{body}, n+8, api.OK)
	}
}

// bodiesOf are bodies of these lengths, and their frames one behind the other.
func bodiesOf(lengths ...int) (bodies [][]byte, b []byte) {
	for i, n := range lengths {
		bodies = append(bodies, some(int64(i), n))
		b = append(b, frameOf(bodies[i])...)
	}
	return bodies, b
}

func TestAllOfMany(t *testing.T) {
	for _, lengths := range [][]int{{0, 0}, {0, 1, 2, 3}, {3, 0, 0, 7}, {4096, 0, 4096}, make([]int, 1000)} {
		bodies, b := bodiesOf(lengths...)
		areTold(t, b, bodies, len(b), api.OK)
	}
}

func TestAllTellsWhatReadSaysOfTheRest(t *testing.T) {
	torn := frameOf([]byte("hello"))
	torn[6] ^= 1
	for _, x := range []struct {
		rest []byte
		want api.Errno
	}{
		{[]byte{9}, api.ErrEnd},
		{[]byte{1, 16, 0}, api.ErrEnd},
		{[]byte{1, 16, 0, 0}, api.ErrBig},
		{frameOf(make([]byte, 4097)), api.ErrBig},
		{[]byte{0, 16, 0, 0}, api.ErrEnd},
		{frameOf([]byte("hello"))[:12], api.ErrEnd},
		{torn, api.ErrSum},
		{append(slices.Clone(torn), frameOf([]byte("whole"))...), api.ErrSum}, // what is behind the fault is not told
		{make([]byte, 64), api.ErrSum},
	} {
		for _, lengths := range [][]int{nil, {0}, {2}, {5, 0, 300}, {4096, 1}} {
			bodies, b := bodiesOf(lengths...)
			areTold(t, append(slices.Clone(b), x.rest...), bodies, len(b), x.want)
		}
	}
}

// P4.4

func TestWhatIsFramedIsRead(t *testing.T) {
	for n := range api.MaxFrame + 1 {
		if n > 300 && n < api.MaxFrame-3 && n%61 != 0 {
			continue
		}
		body := some(int64(n), n)
		whole, e := Frame(body)
		if e != api.OK {
			t.Fatalf("Frame of %d bytes: %d", n, int(e))
		}
		for _, x := range behind() {
			isRead(t, slices.Concat(whole, x), body)
		}
	}
}

func TestFramesCutOffAnywhere(t *testing.T) {
	for _, lengths := range [][]int{{0}, {0, 0, 0}, {5, 0, 1, 64, 2}, {300, 3, 0, 128}, {1, 4096, 2}} {
		bodies, b := bodiesOf(lengths...)
		whole, place := 0, 0 // how many are whole, where the last of them ends
		for cut := range len(b) + 1 {
			if whole < len(bodies) && cut == place+len(bodies[whole])+8 {
				place = cut
				whole++
			}
			want := api.ErrEnd
			if cut == place {
				want = api.OK
			}
			areTold(t, b[:cut], bodies[:whole], place, want)
		}
	}
}

// flip turns bits from a place on, of each byte the lowest first, by the bits of what, the lowest first.
func flip(b []byte, place int, what uint32) {
	for i := range 32 {
		if what>>i&1 == 1 {
			b[(place+i)/8] ^= 1 << ((place + i) % 8)
		}
	}
}

// bursts are changes of width bits side by side, the first and the last of which are changed.
func bursts(r *rand.Rand, width int) []uint32 {
	ends := uint32(1) | 1<<(width-1)
	all := uint32(math.MaxUint32) >> (32 - width)
	return []uint32{ends, all, ends | r.Uint32()&all, ends | r.Uint32()&all}
}

// isTold fails where a changed frame is taken for one, alone or with others around it.
func isTold(t *testing.T, changed []byte) {
	t.Helper()
	isRefused(t, changed, api.ErrSum)
	if len(changed) < 100 {
		ahead := frameOf([]byte("ahead"))
		areTold(t, slices.Concat(ahead, changed, ahead), [][]byte{[]byte("ahead")}, len(ahead), api.ErrSum)
	}
}

func TestBitsSideBySideChanged(t *testing.T) {
	r := rand.New(rand.NewSource(1))
	for _, n := range []int{0, 1, 2, 3, 4, 5, 17, 40} {
		whole := frameOf(some(int64(n), n))
		bits := 8 * len(whole)
		for place := 32; place < bits; place++ {
			for width := 1; width <= 32 && place+width <= bits; width++ {
				for _, what := range bursts(r, width) {
					changed := slices.Clone(whole)
					flip(changed, place, what)
					isTold(t, changed)
				}
			}
		}
	}
}

func TestBitsOfTheGreatestFrameChanged(t *testing.T) {
	r := rand.New(rand.NewSource(2))
	whole := frameOf(some(3, api.MaxFrame))
	bits := 8 * len(whole)
	places := []int{32, 33, 39, 40, bits - 65, bits - 64, bits - 63, bits - 48, bits - 33, bits - 32}
	for range 100 {
		places = append(places, 32+r.Intn(bits-64))
	}
	for _, place := range places {
		for _, width := range []int{1, 2, 8, 31, 32} {
			for _, what := range bursts(r, width) {
				changed := slices.Clone(whole)
				flip(changed, place, what)
				isTold(t, changed)
			}
		}
	}
}

// What is handed in is not changed and not kept; what is handed out is new memory (DOC.md, rule 5).

// within lays b into greater memory, and answers both.
func within(b []byte) (memory, piece []byte) {
	memory = slices.Concat(some(4, 16), b, some(5, 16))
	return memory, memory[16 : 16+len(b)]
}

func TestArgumentsAreLeftAlone(t *testing.T) {
	torn := frameOf(some(6, 20))
	torn[10] ^= 1
	for _, b := range [][]byte{nil, {1, 0}, {1, 16, 0, 0}, some(7, 100), frameOf(nil), frameOf(some(8, 100)), torn, append(frameOf(some(9, 40)), torn...)} {
		memory, piece := within(b)
		before := slices.Clone(memory)
		Frame(piece)
		Read(piece)
		All(piece)
		if !bytes.Equal(memory, before) {
			t.Errorf("%x has changed", b)
		}
	}
}

func TestFrameHangsOnTheBodyAlone(t *testing.T) {
	for _, n := range []int{0, 1, 20, 4096} {
		memory, body := within(some(10, n))
		want := frameOf(body)
		got, _ := Frame(body)
		for i := range memory {
			memory[i] = ^memory[i]
		}
		if !bytes.Equal(got, want) {
			t.Errorf("the frame of %d bytes shares memory with them", n)
		}
	}
}

// scribble turns all bytes of a list, and of what lies behind it in its memory.
func scribble(b []byte) {
	b = b[:cap(b)]
	for i := range b {
		b[i] = ^b[i]
	}
}

func TestReadAnswersNewMemory(t *testing.T) {
	for _, n := range []int{0, 1, 20, 4096} {
		body := some(11, n)
		memory, piece := within(frameOf(body))
		got, _, _ := Read(piece)
		scribble(memory)
		if !bytes.Equal(got, body) {
			t.Errorf("the body of %d bytes shares memory with the frame", n)
		}
		before := slices.Clone(memory)
		scribble(got)
		if !bytes.Equal(memory, before) {
			t.Errorf("behind the body of %d bytes lies the frame's memory", n)
		}
	}
}

func TestAllAnswersNewMemory(t *testing.T) {
	for _, end := range [][]byte{nil, {9}, {1, 16, 0, 0}} { // with an error, too
		bodies, b := bodiesOf(3, 0, 20, 300)
		memory, piece := within(append(b, end...))
		got, _, _ := All(piece)
		scribble(memory)
		if !slices.EqualFunc(got, bodies, bytes.Equal) {
			t.Error("the bodies share memory with the frames")
		}
		before := slices.Clone(memory)
		for i := range got {
			scribble(got[i])
			if !slices.EqualFunc(got[i+1:], bodies[i+1:], bytes.Equal) {
				t.Errorf("body %d shares memory with another one", i)
			}
		}
		if !bytes.Equal(memory, before) {
			t.Error("behind the bodies lies the frames' memory")
		}
	}
}

func TestAnswersDoNotHangOnOtherCalls(t *testing.T) {
	first, _ := Frame([]byte("first"))
	scribble(first)
	if again, _ := Frame([]byte("first")); !bytes.Equal(again, frameOf([]byte("first"))) {
		t.Errorf("%x", again)
	}
	whole := frameOf([]byte("first"))
	body, _, _ := Read(whole)
	scribble(body)
	isRead(t, whole, []byte("first"))
}

// Whatever is given, Read and All end, and agree.

func TestBytesOfAnyKind(t *testing.T) {
	r := rand.New(rand.NewSource(3))
	for seed := range 3000 {
		b := some(int64(seed), r.Intn(60))
		for range r.Intn(3) {
			b = append(b, frameOf(some(int64(seed), r.Intn(9)))...)
		}
		if r.Intn(2) == 0 {
			b = append(frameOf(some(int64(seed), r.Intn(9))), b...)
		}
		agree(t, b)
	}
}

// agree fails where All does not tell what Reads one behind the other do.
func agree(t *testing.T, b []byte) {
	t.Helper()
	var bodies [][]byte
	place, want := 0, api.OK
	for place < len(b) && want == api.OK {
		body, n, e := Read(b[place:])
		if e == api.OK {
			bodies = append(bodies, body)
		}
		place, want = place+n, e
	}
	areTold(t, b, bodies, place, want)
}

func FuzzReadAndAll(f *testing.F) {
	for _, x := range behind() {
		f.Add(x)
	}
	f.Fuzz(func(t *testing.T, b []byte) {
		agree(t, b)
		if body, n, e := Read(b); e == api.OK {
			if again, e := Frame(body); !bytes.Equal(again, b[:n]) || e != api.OK {
				t.Errorf("%x is read as the frame of %x", b[:n], body)
			}
		}
	})
}
