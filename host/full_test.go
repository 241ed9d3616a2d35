package host

import (
	"crypto/sha256"
	"encoding/binary"
	"fmt"
	"slices"
	"strings"
	"testing"

	"veneer/api"
	"veneer/disk"
	"veneer/kv"
)

// The keys and values that a blob, or a hold, has in the store's database (chapter 12).

func sumOf(data string) api.Digest { return sha256.Sum256([]byte(data)) }

func putsOfBlob(data string) []api.Put {
	x := sumOf(data)
	l := []api.Put{{Key: "s" + string(x[:]), Value: string(binary.AppendUvarint(nil, uint64(len(data))))}}
	for i := 0; 128*i < len(data); i++ {
		l = append(l, api.Put{Key: "b" + string(x[:]) + string([]byte{byte(i)}), Value: data[128*i : min(128*i+128, len(data))]})
	}
	return l
}

func putOfHold(h api.Hold, l ...api.Digest) api.Put {
	value := ""
	for _, x := range l {
		value += string(x[:])
	}
	return api.Put{Key: "h" + string(binary.BigEndian.AppendUint64([]byte{byte(h.Root)}, uint64(h.Txn))), Value: value}
}

// fullDisk is a store's disk whose log other hands filled to the last byte, by batches of just 4096 bytes. Rising by their keys the same keys and values go into more batches, which have no room, not even where something small of them goes: so a small hold can't be freed, nor turned, until a great one is freed. Root 1 holds nothing for transaction 1; roots 2 to 6 hold much for transactions 1 to 24. Nobody holds the blob of no bytes.
func fullDisk(t *testing.T) *disk.Disk {
	t.Helper()
	d, _ := disk.New(3080) // for 24 such batches
	db, _ := kv.Open(d)
	bytesOf := func(l []api.Put) int {
		s, _ := kv.Encode(l)
		return len(s)
	}
	l := append(putsOfBlob(""), putOfHold(api.Hold{Root: 1, Txn: 1}))
	for i := range 24 {
		var mine []api.Digest
		for left := 4096; left > 0; { // for the bytes of the last blob: one of so few has 74 more, five holds of 16 digests have 2630
			left = 4096 - max(1, bytesOf(l)) - 5*526 - 74
			data := fmt.Sprintf("%02d%02d", i, len(mine))
			if left < 128 {
				data, left = data+strings.Repeat(".", left-4), 0
			}
			mine = append(mine, sumOf(data))
			l = append(l, putsOfBlob(data)...)
		}
		for k := range 5 {
			var held []api.Digest
			for at := range 16 {
				held = append(held, mine[(16*k+at)%len(mine)])
			}
			l = append(l, putOfHold(api.Hold{Root: 2 + k, Txn: 1 + i}, held...))
		}
		if e := db.Do(l); e != api.OK || bytesOf(l) != 4096 {
			t.Fatalf("%d: %d, %d bytes", i, int(e), bytesOf(l))
		}
		l = nil
	}
	return d
}

// onFullDisk is a host whose store has that disk.
func onFullDisk(t *testing.T) *Host {
	t.Helper()
	h := begun(t, genesis(3, rich(1, 1, 2, 3)))
	must(t, h, crash(7))
	h.disks[7] = fullDisk(t)
	must(t, h, start(7))
	if len(h.Holds()) != 1+5*24 {
		t.Fatalf("%d holds", len(h.Holds()))
	}
	return h
}

// A tick frees what nobody knows up to the first error: not even what there would be room to free.
func TestTickOnAFullStore(t *testing.T) {
	h := onFullDisk(t)
	ahead := h.Holds()
	tells(t, h, tick(0), api.Told{})
	if got := h.Holds(); !slices.Equal(got, ahead) || !h.Up(7) {
		t.Fatalf("%v", got)
	}
	h.store.Free(api.Hold{Root: 3, Txn: 7})
	tells(t, h, tick(0), api.Told{})
	if got := h.Holds(); len(got) != 0 {
		t.Fatalf("%v", got)
	}
}

// Who is forgotten is, whatever is told of one of the holds.
func TestForgettingOnAFullStore(t *testing.T) {
	h := onFullDisk(t)
	ahead := h.Holds()
	h.boss.machine.Begin(1, []api.Plan{{Root: 1}, {Root: 3}})
	h.boss.asked[1] = request{owner: 1, roots: []int{1, 3}, reserved: 5}
	h.net.Send(api.Msg{Kind: api.MsVote, From: 1, Txn: 1})
	must(t, h, deliverUp(1, 0), take(0))
	want := slices.DeleteFunc(ahead, func(x api.Hold) bool { return x == api.Hold{Root: 3, Txn: 1} })
	if got := h.Holds(); !slices.Equal(got, want) || len(h.Open()) != 0 || h.boss.reserved(1) != 0 {
		t.Fatalf("%v, want %v", got, want)
	}
}

// A root that can't settle, since the store has no room, does nothing more: it neither acknowledges nor stages.
func TestSettlingOnAFullStore(t *testing.T) {
	h := onFullDisk(t)
	h.bases[1].Stage(1, nil)
	h.net.Send(api.Msg{Kind: api.MsCommit, To: 1, Txn: 1})
	h.net.Send(api.Msg{Kind: api.MsPrepare, To: 1, Txn: 2})
	must(t, h, deliverDown(1, 0), deliverDown(1, 0), take(1))
	for range 2 {
		part, _ := h.Part(1)
		if !slices.Equal(part.Done, []int{1}) || part.Staged != 0 || len(h.net.Link(1, 0)) != 0 || !h.Up(7) || h.Holds()[0] != (api.Hold{Root: 1, Txn: 1}) {
			t.Fatalf("%v, %s", part, messages(h.net.Link(1, 0)))
		}
		h.Do(take(1))
		must(t, h, tick(1))
	}
	h.store.Free(api.Hold{Root: 3, Txn: 7})
	must(t, h, tick(1))
	if got := h.Holds(); got[0] != (api.Hold{Root: 1}) {
		t.Fatalf("%v", got)
	}
}

// A sweep, and a request, of what a full store refuses.
func TestRefusalsOfAFullStore(t *testing.T) {
	h := onFullDisk(t)
	blobs, holds := h.Blobs(), h.Holds()
	tells(t, h, sweep(), refused(api.ErrFull))
	tells(t, h, ask(1, simple(1, "p")), refused(api.ErrFull))
	if !slices.Equal(h.Blobs(), blobs) || !slices.Equal(h.Holds(), holds) || !h.Up(7) || len(h.Open()) != 0 || len(h.net.Link(0, 1)) != 0 {
		t.Fatal("what was refused changed something")
	}
	h.store.Free(api.Hold{Root: 3, Txn: 7})
	tells(t, h, sweep(), number(1))
	tells(t, h, ask(1, simple(1, "p")), number(txn(1, 1, 2))) // the first number is used up
}
