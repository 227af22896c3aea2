package journal_test

import (
	"slices"
	"testing"

	"braid/api"
	"braid/journal"
)

// host is a disk with its log, and what P21.4 needs to be held against it.
type host struct {
	t    *testing.T
	d    *journal.Disk
	l    *journal.Log
	all  []api.Record // that are there
	safe int          // of these, at the last Sync or Open
}

func newHost(t *testing.T, size int) *host {
	t.Helper()
	h := &host{t: t, d: zeros(t, size).d}
	h.open()
	return h
}

// copied is a host of its own that has come as far, if nothing waits there.
func (h *host) copied() *host {
	h.t.Helper()
	c := &host{t: h.t, d: loaded(h.t, h.d.Image()).d, all: slices.Clone(h.all), safe: h.safe}
	c.open()
	return c
}

// append appends, if there is room.
func (h *host) append(kind byte, body []byte) {
	h.t.Helper()
	n, e := h.l.Append(kind, body)
	if e == fullErr && len(body) > h.l.Room() {
		return
	}
	if e != api.OK || n != uint64(len(h.all)) {
		h.t.Fatalf("Append(%d, %x): %d, %d", kind, body, n, e)
	}
	h.all = append(h.all, api.Record{Number: n, Kind: kind, Body: slices.Clone(body)})
}

// sync makes all safe, by the log or by the disk.
func (h *host) sync(byDisk bool) {
	if byDisk {
		h.d.Sync()
	} else if e := h.l.Sync(); e != api.OK {
		h.t.Fatalf("Sync: %d", e)
	}
	h.safe = len(h.all)
}

// open opens the log behind a crash, or at first: a beginning of what was there, with all that was safe.
func (h *host) open() {
	h.t.Helper()
	l, e := journal.Open(h.d)
	if e != api.OK {
		h.t.Fatalf("Open: %d", e)
	}
	got := l.Records()
	if len(got) < h.safe || len(got) > len(h.all) || !sameRecords(got, h.all[:len(got)]) {
		h.t.Fatalf("%v are there, of %v, of which %d were safe", got, h.all, h.safe)
	}
	h.l, h.all, h.safe = l, got, len(got)
	h.addsUp()
	h.again()
}

// addsUp holds P21.6.
func (h *host) addsUp() {
	h.t.Helper()
	bytes := 0
	for _, r := range h.l.Records() {
		bytes += 18 + len(r.Body)
	}
	behind := h.d.Size() - bytes
	if h.l.Room() != min(behind-18, 65536) || h.l.Len() != uint64(len(h.l.Records())) {
		h.t.Fatalf("Room %d with %d bytes behind %d records", h.l.Room(), behind, h.l.Len())
	}
}

// again holds P21.5.
func (h *host) again() {
	h.t.Helper()
	image := string(h.d.Image())
	l, e := journal.Open(h.d)
	if e != api.OK || !sameRecords(l.Records(), h.all) || l.Room() != h.l.Room() {
		h.t.Fatalf("a second Open finds %v, not %v", l.Records(), h.all)
	}
	now, _ := h.d.Read(0, h.d.Size())
	if string(h.d.Image()) != image || string(now) != image || h.d.Pending() != 0 {
		h.t.Fatal("a second Open has written something")
	}
	h.l = l
}

// crash crashes and opens again.
func (h *host) crash(keep, torn int) {
	h.t.Helper()
	h.d.Crash(keep, torn)
	h.open()
}

// whole awaits that so many records are there.
func (h *host) whole(want int) {
	h.t.Helper()
	if len(h.all) != want {
		h.t.Fatalf("%d records are there, not %d", len(h.all), want)
	}
}

// P21.4: each place at which the writes of three records can be torn; and just those that came through are there.
func TestEveryCrash(t *testing.T) {
	bodies := [][]byte{{}, {0}, {0xa5}, {0xa5, 0, 0xa5}, record(0, 1, nil), record(1, 2, []byte("x")), make([]byte, 20)}
	for _, x := range bodies {
		for _, y := range bodies {
			for synced := range 3 {
				put := func() *host {
					h := newHost(t, 150)
					for i, body := range [][]byte{x, y, x} {
						h.append(byte(i+1), body)
						if i+1 == synced {
							h.sync(i == 1)
						}
					}
					return h
				}
				sizes := []int{18 + len(x), 18 + len(y), 18 + len(x)}[synced:]
				for keep := -1; keep <= len(sizes)+1; keep++ {
					longest := 2
					if keep >= 0 && keep < len(sizes) {
						longest = sizes[keep] + 1
					}
					for torn := -1; torn <= longest; torn++ {
						h := put()
						h.crash(keep, torn)
						came := max(0, min(keep, len(sizes)))
						if came < len(sizes) && torn >= sizes[came] {
							came++
						}
						h.whole(synced + came)
					}
				}
			}
		}
	}
}

// P21.4: crashes at every place, and at every place of what is appended behind the first one, and once more: what was lost never comes back.
func TestCrashAgain(t *testing.T) {
	const size = 110
	texts := [][]byte{record(1, 7, []byte("z")), {}, {0xa5}, record(1, 2, nil)}
	for torn := range 38 {
		h := newHost(t, size)
		h.append(1, texts[0])
		h.crash(0, torn)
		for next := range 2 {
			for torn2 := range 19 {
				g := h.copied()
				g.append(2, texts[1])
				g.append(3, texts[2])
				g.crash(next, torn2)
				for torn3 := range 37 {
					f := g.copied()
					f.append(4, texts[3])
					f.crash(0, torn3)
				}
			}
		}
	}
}

// P21.4: a record's bytes, lost and written again in parts by records that are torn just there, are no record.
func TestLostStays(t *testing.T) {
	inner := record(1, 9, []byte("ghost"))
	for torn := range 18 + len(inner) {
		h := newHost(t, 200)
		h.append(1, inner) // holds what would be a right record 1, 13 bytes behind
		h.crash(0, torn)
		h.whole(0)
		h.append(2, nil) // its last byte is just ahead of where the other one's body went on
		h.sync(false)
		h.crash(0, 0)
		h.whole(1)
	}
	// just where the next record would begin stands a right one inside a body that is torn
	for lead := range 40 {
		body := append(make([]byte, lead), inner...)
		for torn := range 18 + len(body) {
			h := newHost(t, 200)
			h.append(1, body)
			h.crash(0, torn)
			for n := range 24 {
				g := h.copied()
				g.append(2, make([]byte, n))
				g.crash(1, 0)
				g.whole(1)
			}
		}
	}
}

// P21.4 to P21.6: any appends, syncs and crashes, with any bodies.
func TestAnyCrashes(t *testing.T) {
	d := dice(4)
	for range 400 {
		h := newHost(t, 1+d.below(400))
		for range 60 {
			switch d.below(6) {
			case 0:
				h.sync(d.below(2) == 0)
			case 1:
				h.crash(d.below(5)-1, d.below(50)-1)
			default:
				h.append(byte(1+d.below(255)), d.body())
			}
			h.addsUp()
		}
	}
}

// body is any bytes, among them zeros, last bytes and whole records.
func (d *dice) body() []byte {
	n := d.below(40)
	switch d.below(4) {
	case 0:
		return make([]byte, n)
	case 1:
		return slices.Repeat([]byte{0xa5}, n)
	case 2:
		return slices.Concat(make([]byte, n/4), record(uint64(d.below(4)), byte(1+d.below(2)), d.bytes(d.below(3))), []byte{0xa5}[:d.below(2)])
	}
	return d.bytes(n)
}
