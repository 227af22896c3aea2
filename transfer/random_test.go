package transfer_test

import (
	"bytes"
	"fmt"
	"math"
	"reflect"
	"slices"
	"testing"

	"braid/api"
	"braid/journal"
	"braid/mux"
	"braid/transfer"
)

// both is a Transfer beside the second reckoning: each call is made of both, and their answers, looks and logs must be the same.
type both struct {
	t      *testing.T
	side   int
	c      api.TransferConfig
	x      *transfer.Transfer
	b      *byBook
	logs   [2]*journal.Log // of the two
	disks  [2]*journal.Disk
	errors map[api.Errno]int // how often each was answered
	states map[int]int       // how often a fetch came into each
	total  int
}

func newBoth(t *testing.T, d *dice, side int, c api.TransferConfig) *both {
	t.Helper()
	x := &both{t: t, side: side, c: c, errors: map[api.Errno]int{}, states: map[int]int{}}
	if d.below(4) > 0 {
		size := d.one(40, 300, 1000, 5000)
		for i := range x.logs {
			x.disks[i], _ = journal.NewDisk(size)
		}
		x.open()
	}
	x.renew()
	return x
}

// open opens the logs that are on the disks.
func (x *both) open() {
	for i, d := range x.disks {
		x.logs[i], _ = journal.Open(d)
	}
}

// renew makes both anew, over their logs.
func (x *both) renew() {
	x.t.Helper()
	y, e := transfer.New(x.side, x.c, x.logs[0])
	if e != api.OK {
		x.t.Fatal(e)
	}
	x.x, x.b = y, newByBook(x.side, x.c, x.logs[1])
}

// agree holds what a call answered, and both looks and logs, against each other.
func (x *both) agree(same bool, got, want api.Errno, what string, args ...any) {
	x.t.Helper()
	x.total++
	x.errors[want]++
	if !same || got != want {
		x.t.Fatalf("call %d, %s%v: error %d, want %d; or another answer", x.total, what, args, got, want)
	}
	a, b := x.x.Stat(), x.b.look()
	if !reflect.DeepEqual(a, b) {
		x.t.Fatalf("call %d, %s%v: Stat\n%+v, want\n%+v", x.total, what, args, a, b)
	}
	for _, f := range a.Fetches {
		x.states[f.State]++
	}
	if x.logs[0] != nil && (x.logs[0].Room() != x.logs[1].Room() || !reflect.DeepEqual(x.logs[0].Records(), x.logs[1].Records())) {
		x.t.Fatalf("call %d, %s%v: the logs differ", x.total, what, args)
	}
}

func (x *both) offer(name string, data []byte, piece int) {
	x.t.Helper()
	x.agree(true, x.x.Offer(name, data, piece), x.b.offer(name, data, piece), "Offer", name, len(data), piece)
}

func (x *both) withdraw(name string) {
	x.t.Helper()
	x.agree(true, x.x.Withdraw(name), x.b.withdraw(name), "Withdraw", name)
}

func (x *both) fetch(name string, class, share int) {
	x.t.Helper()
	n, e := x.x.Fetch(name, class, share)
	want, f := x.b.fetch(name, class, share)
	x.agree(n == want, e, f, "Fetch", name, class, share)
}

func (x *both) cancel(n int) {
	x.t.Helper()
	x.agree(true, x.x.Cancel(n), x.b.cancel(n), "Cancel", n)
}

func (x *both) again(n int) {
	x.t.Helper()
	x.agree(true, x.x.Again(n), x.b.again(n), "Again", n)
}

func (x *both) data(n int) {
	x.t.Helper()
	p, e := x.x.Data(n)
	want, f := x.b.data(n)
	x.agree(string(p) == want, e, f, "Data", n)
}

func (x *both) sync() {
	x.t.Helper()
	x.agree(true, x.x.Sync(), x.b.sync(), "Sync")
}

func (x *both) feed(p []byte) {
	x.t.Helper()
	x.agree(true, x.x.Feed(p), x.b.feed(p), "Feed", p)
}

func (x *both) out(most int) []byte {
	x.t.Helper()
	p, want := x.x.Out(most), x.b.out(most)
	x.agree(bytes.Equal(p, want), 0, 0, "Out", most)
	return p
}

// names is what is asked for and offered.
var names = []string{"x", "y", "z", "none", "long name"}

// file is any file of a name, out of a few.
func (d *dice) file(name string) file {
	return fileOf(name, letters(d.one(0, 1, 5, 30, 80)), d.one(1, 2, 7, 30))
}

func (d *dice) name() string { return names[d.below(len(names))] }

// call is any call of the application's.
func (d *dice) call(x *both) {
	x.t.Helper()
	n := 1 + d.below(6)
	switch d.below(14) {
	case 0, 1:
		f := d.file(d.name())
		x.offer(f.name, []byte(f.data), f.piece)
	case 2:
		x.withdraw(d.name())
	case 3, 4, 5:
		x.fetch(d.name(), d.below(8), 1+d.below(255))
	case 6:
		x.cancel(n)
	case 7, 8:
		x.again(n)
	case 9:
		for n := range 7 {
			x.data(n)
		}
	case 10:
		x.sync()
	case 11:
		d.wrongCall(x)
	case 12:
		d.log(x)
	case 13:
		x.out(d.below(2) - 1)
	}
}

// wrongCall is one that must be refused.
func (d *dice) wrongCall(x *both) {
	x.t.Helper()
	switch d.below(8) {
	case 0:
		x.offer("a/b", nil, 1)
	case 1:
		x.offer(d.name(), nil, d.one(-1, 0, 65537))
	case 2:
		x.fetch([]string{"", ".", "..", "/", "\x1f", "\x7f"}[d.below(6)], 0, 1)
	case 3:
		x.fetch(d.name(), d.one(-1, 8, 100), 1)
	case 4:
		x.fetch(d.name(), 0, d.one(-1, 0, 256))
	case 5:
		x.cancel(d.one(-1, 0, 7, 100))
	case 6:
		x.again(d.one(-1, 0, 7, 100))
	case 7:
		x.data(d.one(-1, 0, 7, 100))
	}
}

// log lets the disks crash, or somebody else write into the logs.
func (d *dice) log(x *both) {
	if x.logs[0] == nil {
		return
	}
	f := d.file(d.name())
	kind, body := byte(1+d.below(4)), recordM(f)
	if d.below(2) == 0 && f.count() > 0 {
		kind, body = 2, recordP(f, d.below(f.count()))
	}
	keep, torn, what := d.below(3), d.below(100), d.below(12)
	for i, l := range x.logs {
		switch what {
		case 0:
			x.disks[i].Crash(keep, torn)
		case 1:
			journal.Open(x.disks[i])
		case 2:
			l.Append(kind, body)
		}
	}
}

// anyConfig is one in which the rooms are small or not, but no stream's is so small that nothing comes of it for long.
func (d *dice) anyConfig() api.TransferConfig {
	r := func() api.Rooms {
		return rooms(uint64(d.one(30, 100, 500, 5000)), uint64(d.one(10, 50, 500, 5000)), d.one(1, 2, 3, 9))
	}
	return api.TransferConfig{Mux: api.MuxConfig{Own: r(), Peer: r(), Hold: d.one(1024, 1030, 5000), Quantum: d.one(1, 20, 300)}, Batch: d.one(1, 2, 3, 9, 1000)}
}

// turned is a configuration as the other side has it.
func turned(c api.TransferConfig) api.TransferConfig {
	c.Mux.Own, c.Mux.Peer = c.Mux.Peer, c.Mux.Own
	return c
}

// Two Transfers that are joined, each beside the second reckoning, with any calls, and bytes that come in any pieces.
func TestAnyCallsOfTwo(t *testing.T) {
	states, errors := map[int]int{}, map[api.Errno]int{}
	for seed := range 300 {
		d := dice(seed)
		c := d.anyConfig()
		x := []*both{newBoth(t, &d, 0, c), newBoth(t, &d, 1, turned(c))}
		var way [2][]byte
		for range 500 {
			side := d.below(2)
			if d.below(150) == 0 {
				// A new life of both, in which nothing of the old one is under way.
				for _, s := range x {
					if s.logs[0] != nil && d.below(2) == 0 {
						s.open()
					}
					s.renew()
				}
				way = [2][]byte{}
			}
			if d.below(6) == 0 {
				d.call(x[side])
				continue
			}
			way[side] = append(way[side], x[side].out(d.one(3, 20, 1000))...)
			n := min(len(way[side]), d.one(1, 5, 100, 10000))
			x[1-side].feed(way[side][:n])
			way[side] = way[side][n:]
		}
		for _, s := range x {
			count(states, s.states)
			count(errors, s.errors)
		}
	}
	often(t, states, 500, asking, getting, done, missing, cancelled)
	often(t, states, 100, changed)
	often(t, errors, 40, thereErr, noOfferErr, sameErr, noFetchErr, stateErr, classErr, nameErr, cutErr, deadErr)
}

func count[K comparable](all, more map[K]int) {
	for k, n := range more {
		all[k] += n
	}
}

// often tells whether each of these has been there so often.
func often[K comparable](t *testing.T, all map[K]int, n int, wanted ...K) {
	t.Helper()
	for _, k := range wanted {
		if all[k] < n {
			t.Errorf("%v was there %d times, want %d", k, all[k], n)
		}
	}
}

// rascal is a peer that answers and asks as it likes.
type rascal struct {
	m       *mux.Mux
	d       *dice
	hears   map[uint64]*asker // streams of the Transfer's
	asks    []uint64          // streams of its own
	said    map[uint64][]byte // on each what is still to be written
	offered map[string]file
}

// asker is what has come on a stream of the Transfer's.
type asker struct {
	q     []byte
	ended bool
}

func newRascal(d *dice, c api.TransferConfig) *rascal {
	m, _ := mux.New(1, c.Mux)
	r := &rascal{m: m, d: d, hears: map[uint64]*asker{}, said: map[uint64][]byte{}, offered: map[string]file{}}
	for _, name := range names[:4] {
		r.offered[name] = d.file(name)
	}
	return r
}

// acts does one thing.
func (r *rascal) acts() {
	for id, ok := r.m.Accept(); ok; id, ok = r.m.Accept() {
		r.hears[id] = &asker{}
	}
	for _, id := range sortedIds(r.hears) {
		r.hear(id, r.hears[id])
	}
	if r.d.below(10) == 0 {
		if id, e := r.m.Open(r.d.below(8), 1); e == api.OK {
			r.asks = append(r.asks, id)
			r.said[id] = r.request()
		}
	}
	for _, id := range r.asks {
		r.m.Read(id, r.d.one(0, 1, 100, 100000))
		r.say(id)
	}
	if r.d.below(2000) == 0 {
		r.m.Away(0)
	}
	if r.d.below(15) == 0 {
		name := names[r.d.below(4)]
		r.offered[name] = r.d.file(name)
	}
}

func sortedIds(m map[uint64]*asker) []uint64 {
	var l []uint64
	for id := range m {
		l = append(l, id)
	}
	slices.Sort(l)
	return l
}

func (r *rascal) hear(id uint64, a *asker) {
	b, ended, e := r.m.Read(id, r.d.one(1, 30, 1000))
	a.q = append(a.q, b...)
	if e == api.ErrMuxReset {
		r.m.Reset(id, 5)
	}
	if e != api.OK {
		return
	}
	if ended && !a.ended {
		a.ended = true
		r.said[id] = r.answer(a.q)
	}
	if r.d.below(200) == 0 && !a.ended {
		r.said[id] = r.answer([]byte(requestM(names[r.d.below(4)])))
		a.ended = true
	}
	r.say(id)
}

// say writes some of what is to be said; the end, or a break, comes behind it.
func (r *rascal) say(id uint64) {
	s, ok := r.said[id]
	if !ok {
		return
	}
	if r.d.below(150) == 0 {
		r.m.Reset(id, 3)
	}
	if r.d.below(150) == 0 {
		r.m.Stop(id, 4)
	}
	n, _ := r.m.Write(id, s[:min(len(s), r.d.one(1, 40, 1000))])
	r.said[id] = s[n:]
	if n == len(s) && r.d.below(3) > 0 {
		r.m.Close(id)
		delete(r.said, id)
	}
}

// answer is the right answer to a request, or one like it.
func (r *rascal) answer(q []byte) []byte {
	b := &byBook{offers: r.offered}
	a := b.answer(q)
	if r.d.below(3) > 0 {
		return a
	}
	return r.spoilt(a)
}

// spoilt is bytes with one thing about them otherwise.
func (r *rascal) spoilt(b []byte) []byte {
	b = slices.Clone(b)
	at := r.d.below(len(b) + 1)
	switch r.d.below(7) {
	case 0:
		return append(b, r.d.bytes(1+r.d.below(3))...)
	case 1:
		return b[:at]
	case 2, 3:
		if at < len(b) {
			b[at] ^= byte(1 << r.d.below(8))
		}
		return b
	case 4:
		return slices.Insert(b, at, byte(r.d.below(256)))
	case 5:
		return append(b, b...)
	}
	return []byte{[]byte("NCY?")[r.d.below(4)]}
}

// request is a right one, or one like it.
func (r *rascal) request() []byte {
	name := r.d.name()
	q := requestM(name)
	if f, ok := r.offered[name]; ok && r.d.below(3) > 0 {
		var l []int
		for at := r.d.below(3); len(l) < r.d.one(2, 4, 6); at += 1 + r.d.below(3) {
			n := 1 + r.d.below(4)
			l = append(l, at, at+n)
			at += n
		}
		q = f.ask(l...)
	}
	if r.d.below(4) == 0 {
		return r.spoilt([]byte(q))
	}
	if r.d.below(20) == 0 {
		return bytes.Repeat([]byte(q), 40)
	}
	return []byte(q)
}

// A Transfer beside the second reckoning, against a peer that keeps no rule but those of the mux.
func TestAnyPeer(t *testing.T) {
	if testing.Short() {
		t.Skip("it takes seconds")
	}
	states, errors := map[int]int{}, map[api.Errno]int{}
	serving := 0
	for seed := range 400 {
		d := dice(seed + 1000)
		c := d.anyConfig()
		x, r := newBoth(t, &d, 0, c), newRascal(&d, turned(c))
		// What it offers is what the peer asks for.
		for _, name := range names[:3] {
			if f := r.offered[name]; d.below(3) > 0 {
				x.offer(f.name, []byte(f.data), f.piece)
			}
		}
		for range 300 {
			if d.below(6) == 0 {
				d.call(x)
			}
			if d.below(50) == 0 {
				for n := range 6 {
					x.again(n)
				}
			}
			r.acts()
			if e := r.m.Feed(x.out(d.one(3, 20, 1000))); e != api.OK {
				t.Fatalf("the peer's mux is broken: %d", r.m.Stat().Broken)
			}
			x.feed(r.m.Out(d.one(1, 5, 100, 10000)))
			serving = max(serving, x.x.Stat().Serving)
		}
		believed(t, x.x)
		count(states, x.states)
		count(errors, x.errors)
		if e := x.x.Stat().Mux.Broken; e != api.OK {
			t.Fatalf("broken: %d", e)
		}
	}
	often(t, states, 1000, asking, getting, done, missing, cancelled, failed)
	often(t, states, 300, changed)
	if serving < 3 {
		t.Errorf("%d streams were served at most", serving)
	}
}

// A Transfer beside the second reckoning, fed with frames of any kind, and with bytes of any kind, by which it breaks.
func TestAnyBytes(t *testing.T) {
	errors := map[api.Errno]int{}
	for seed := range 600 {
		d := dice(seed + 5000)
		c := d.anyConfig()
		x := newBoth(t, &d, d.below(2), c)
		for range 60 {
			switch d.below(4) {
			case 0:
				d.call(x)
			case 1:
				x.out(d.one(1, 20, 1000))
			default:
				x.feed(d.frames(t))
			}
			if d.below(100) == 0 {
				x.feed(d.bytes(d.below(20)))
			}
		}
		count(errors, x.errors)
		x.out(math.MaxInt)
	}
	often(t, errors, 100, api.OK, brokenErr)
}

// frames is a few frames that may follow upon anything, or not.
func (d *dice) frames(t *testing.T) []byte {
	var l []api.MuxFrame
	for range 1 + d.below(4) {
		id := uint64(1 + d.below(8))
		texts := []string{"", "M", "M\x01x", "M\x00", "N", "Y", "C", "Y\x00\x00", "P", fmt.Sprint(d.below(100)), string(d.bytes(30))}
		f := api.MuxFrame{Kind: 1 + d.below(9), Stream: id}
		switch f.Kind {
		case api.MuxOpen:
			f.Share = 1
		case api.MuxBytes:
			f.Data = []byte(texts[1+d.below(len(texts)-1)])
		case api.MuxPing, api.MuxPong:
			f.Stream = 0
		case api.MuxAway:
			f.Stream = uint64(d.below(2))
		}
		if f.Kind != api.MuxOpen && f.Kind != api.MuxBytes && f.Kind != api.MuxEnd {
			f.N = uint64(d.below(100))
		}
		l = append(l, f)
	}
	return wire(t, l...)
}
