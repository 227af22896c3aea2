package gobackn_test

import (
	"bytes"
	"testing"

	"braid/api"
	"braid/gobackn"
	"braid/wire"
)

// parcel is a frame on its way.
type parcel struct {
	bytes  []byte
	spoilt bool
}

// world is two sides and a path between them, and what the application has done and seen.
type world struct {
	t       *testing.T
	c       api.Config
	ends    [2]*gobackn.End
	bags    [2][]parcel // by who has sent
	forged  int
	written [2][]byte // accepted by this side
	read    [2][]byte // read by this side
	ended   [2]bool   // this side was told the end
	closed  [2]bool
	aborted [2]bool
	resets  [2]bool   // an RST of the peer's was delivered to this side
	told    [2]uint64 // the greatest edge that this side's peer has told
	chunks  [2]int
}

func newWorld(t *testing.T, c api.Config) *world {
	t.Helper()
	w := &world{t: t, c: c}
	for side := range 2 {
		e, bad := gobackn.New(c, side)
		if bad != api.OK {
			t.Fatal(bad)
		}
		w.ends[side] = e
		w.told[side] = c.Base[side] + uint64(c.RecvBuf)
	}
	return w
}

// take lays what a side sends into its bag, and holds it against what may be sent.
func (w *world) take(side int) {
	w.t.Helper()
	for _, o := range w.ends[side].Out() {
		f, bad := wire.Decode(o.Bytes)
		switch {
		case bad != api.OK || o.Path != 0 || f.Path != 0:
			w.t.Fatalf("%+v: %v", o, bad)
		case f.Kind == api.KindDack:
			w.told[1-side] = max(w.told[1-side], f.Edge)
		case f.Kind == api.KindData:
			w.checkData(side, f)
		}
		if len(w.bags[side]) < w.c.Bag {
			w.bags[side] = append(w.bags[side], parcel{bytes: o.Bytes})
		}
	}
	w.check(side)
}

// checkData: what DATA says of an offset is the byte that was accepted for it, none at or behind the edge.
func (w *world) checkData(side int, f api.Frame) {
	w.t.Helper()
	from := f.Off - w.c.Base[side]
	to := from + uint64(len(f.Data))
	if to > uint64(len(w.written[side])) || !bytes.Equal(w.written[side][from:to], f.Data) {
		w.t.Fatalf("side %d sends %+v", side, f)
	}
	if w.forged == 0 && f.Off+uint64(len(f.Data)) > w.told[side] {
		w.t.Fatalf("side %d sends %+v, the edge is %d", side, f, w.told[side])
	}
}

// check: S4 and P12.9.
func (w *world) check(side int) {
	w.t.Helper()
	s := w.ends[side].Stat()
	switch {
	case s.Free < 0, s.Free != w.c.SendBuf-int(s.End-min(s.Acked, s.End)):
	case s.Stored > w.c.RecvBuf, s.Holes > w.c.Gaps, w.forged == 0 && s.Holes != 0:
	case s.Paths[0].Inflight > api.Backn+1:
	case s.Err == api.ErrAborted && !w.aborted[side]:
	case s.Err == api.ErrReset && w.forged == 0 && !w.resets[side]:
	default:
		return
	}
	w.t.Fatalf("side %d: %+v", side, s)
}

func (w *world) write(side int, p []byte) (int, api.Errno) {
	n, bad := w.ends[side].Write(p)
	w.written[side] = append(w.written[side], p[:n]...)
	w.chunks[side] += (n + w.c.Mss - 1) / w.c.Mss
	w.take(side)
	return n, bad
}

func (w *world) close(side int) api.Errno {
	bad := w.ends[side].Close()
	if bad == api.OK {
		w.closed[side] = true
		w.chunks[side]++
	}
	w.take(side)
	return bad
}

func (w *world) abort(side int) api.Errno {
	w.aborted[side] = true
	bad := w.ends[side].Abort()
	w.take(side)
	return bad
}

// reads takes bytes at a side, and holds them against what the peer wrote: S1.
func (w *world) reads(side, n int) ([]byte, bool, api.Errno) {
	w.t.Helper()
	b, ended, bad := w.ends[side].Read(n)
	w.read[side] = append(w.read[side], b...)
	w.ended[side] = w.ended[side] || ended
	if w.forged == 0 {
		if !bytes.HasPrefix(w.written[1-side], w.read[side]) {
			w.t.Fatalf("side %d has read %q, written was %q", side, w.read[side], w.written[1-side])
		}
		if ended && (!w.closed[1-side] || len(w.read[side]) != len(w.written[1-side])) {
			w.t.Fatalf("side %d was told the end behind %q, written was %q", side, w.read[side], w.written[1-side])
		}
	}
	w.take(side)
	return b, ended, bad
}

func (w *world) tick(side, ms int) {
	w.t.Helper()
	w.ends[side].Tick(ms)
	w.take(side)
}

// deliver lets the peer hear the frame at a place of a side's bag.
func (w *world) deliver(side, place int) {
	w.t.Helper()
	p := w.drop(side, place)
	f, bad := wire.Decode(p.bytes)
	if bad == api.OK {
		if p.spoilt {
			w.forged++
		}
		w.resets[1-side] = w.resets[1-side] || f.Kind == api.KindRst
	}
	before := w.ends[1-side].Stat().Err
	w.ends[1-side].Receive(0, p.bytes)
	if now := w.ends[1-side].Stat().Err; now != before && now != api.ErrReset {
		w.t.Fatalf("side %d: %v by a frame", 1-side, now)
	}
	w.take(1 - side)
}

func (w *world) drop(side, place int) parcel {
	p := w.bags[side][place]
	w.bags[side] = append(w.bags[side][:place:place], w.bags[side][place+1:]...)
	return p
}

func (w *world) double(side, place int) {
	if len(w.bags[side]) < w.c.Bag {
		p := w.bags[side][place]
		w.bags[side] = append(w.bags[side], parcel{bytes.Clone(p.bytes), p.spoilt})
	}
}

// flush delivers as long as a frame lies there.
func (w *world) flush() {
	w.t.Helper()
	for len(w.bags[0])+len(w.bags[1]) > 0 {
		for side := range 2 {
			for range len(w.bags[side]) {
				w.deliver(side, 0)
			}
		}
	}
}

// calm is one calm round.
func (w *world) calm() {
	w.t.Helper()
	w.flush()
	for side := range 2 {
		w.reads(side, api.MaxBuf)
	}
	for side := range 2 {
		w.tick(side, api.MaxRto)
	}
}

func (w *world) inError() bool {
	return w.ends[0].Stat().Err != api.OK || w.ends[1].Stat().Err != api.OK
}

// someStep does anything to the frames on their way, or lets a clock go on.
func (w *world) someStep(d *dice) {
	w.t.Helper()
	side := int(d.below(2))
	if n := uint64(len(w.bags[side])); n > 0 && !d.one(12) {
		place := int(d.below(n))
		if !d.one(4) {
			place = 0
		}
		switch d.below(12) {
		case 0:
			w.drop(side, place)
		case 1:
			w.double(side, place)
		case 2:
			p := &w.bags[side][place]
			p.bytes[d.below(uint64(len(p.bytes)))] ^= byte(1 + d.below(255))
			p.spoilt = true
		default:
			w.deliver(side, place)
		}
		return
	}
	w.tick(side, d.oneOf(1, 300, 1000, 1000, 2000, 10000))
}

// someCall is one of the application's; aborts are seldom.
func (w *world) someCall(d *dice, aborts bool) {
	w.t.Helper()
	side := int(d.below(2))
	switch n := d.below(200); {
	case n < 100:
		w.write(side, []byte(d.text(int(d.below(30)))))
	case n < 198:
		w.reads(side, int(d.below(40)))
	case n < 199:
		w.close(side)
	case aborts && d.one(4):
		w.abort(side)
	}
}

func someWorld(t *testing.T, d *dice, bag int) *world {
	t.Helper()
	c := someConfig(d)
	c.Bag = bag
	if !d.one(4) { // else there may be few offsets left
		c.Base = [2]uint64{0, 1000}
	}
	return newWorld(t, c)
}

// S1, S4, P12.9: whatever becomes of the frames.
func TestSafety(t *testing.T) {
	rows := 600
	if testing.Short() {
		rows = 100
	}
	d := dice(1)
	var read, ended, failed int
	for range rows {
		w := someWorld(t, &d, d.oneOf(1, 5, 100, 100, 100))
		for range 400 {
			if d.one(4) {
				w.someCall(&d, true)
			} else {
				w.someStep(&d)
			}
		}
		for side := range 2 {
			read += len(w.read[side])
			if w.ended[side] {
				ended++
			}
			if w.ends[side].Stat().Err != api.OK {
				failed++
			}
		}
	}
	if read < 25*rows || ended < rows/10 || failed < rows/10 {
		t.Errorf("%d bytes read, %d ends told, %d sides in error", read, ended, failed)
	}
}

// S5: with calm rounds behind it, everything arrives in time, and nobody has an error.
func TestLife(t *testing.T) {
	rows := 400
	if testing.Short() {
		rows = 60
	}
	d := dice(5)
	lived := 0
	for range rows {
		w := someWorld(t, &d, 2048)
		for range int(d.below(300)) {
			if d.one(3) {
				w.someCall(&d, false)
			} else {
				w.someStep(&d)
			}
		}
		w.calm()
		w.calm()
		if w.inError() || w.forged > 0 {
			continue
		}
		lived++
		for range 4*(w.c.Retries+4) + 4*(w.chunks[0]+w.chunks[1]) {
			w.calm()
		}
		for side := range 2 {
			if w.inError() || !bytes.Equal(w.read[side], w.written[1-side]) || w.ended[side] != w.closed[1-side] {
				t.Fatalf("side %d: read %d of %d, end %v of %v: %+v", side, len(w.read[side]), len(w.written[1-side]), w.ended[side], w.closed[1-side], w.ends[side].Stat())
			}
		}
	}
	if lived < rows/3 {
		t.Errorf("%d of %d lived", lived, rows)
	}
}

// find is the place of a frame in a side's bag; -1, if there is none.
func (w *world) find(side int, is func(api.Frame) bool) int {
	for i, p := range w.bags[side] {
		if f, bad := wire.Decode(p.bytes); bad == api.OK && is(f) {
			return i
		}
	}
	return -1
}

// give delivers a frame of a side that must be there.
func (w *world) give(side int, what string, is func(api.Frame) bool) {
	w.t.Helper()
	place := w.find(side, is)
	if place < 0 {
		w.t.Fatalf("side %d: no %s lies there", side, what)
	}
	w.deliver(side, place)
}

// follow brings a world in which nothing is lost to where another one is, as far as an application can see: chunks are heard when they were heard there, and DACKs that tell no more than was told there.
func (w *world) follow(s *world) {
	w.t.Helper()
	for side := range 2 {
		peer := 1 - side
		for w.ends[side].Stat().Next < s.ends[side].Stat().Next {
			v := w.ends[side].Stat().Next
			w.give(peer, "chunk", func(f api.Frame) bool { return f.Kind <= api.KindFin && f.Off == v })
			for w.find(side, isAck) >= 0 {
				w.give(side, "ACK", isAck)
			}
		}
	}
	for side := range 2 {
		want := s.ends[side].Stat()
		if got := w.ends[side].Stat(); got.Acked != want.Acked || got.Edge != want.Edge {
			w.give(1-side, "DACK", func(f api.Frame) bool {
				return f.Kind == api.KindDack && f.Off == want.Acked && f.Edge == want.Edge
			})
		}
	}
}

func isAck(f api.Frame) bool { return f.Kind == api.KindAck }

// alike makes a call in both worlds, and fails unless it is answered alike.
func alike(d *dice, a, b *world) {
	a.t.Helper()
	side := int(d.below(2))
	switch n := d.below(100); {
	case n < 50:
		p := []byte(d.text(int(d.below(30))))
		x, bad := a.write(side, p)
		if y, bad2 := b.write(side, p); x != y || bad != bad2 {
			a.t.Fatalf("side %d: Write %d %v and %d %v", side, x, bad, y, bad2)
		}
	case n < 99:
		n := int(d.below(40))
		x, ended, bad := a.reads(side, n)
		if y, ended2, bad2 := b.reads(side, n); !bytes.Equal(x, y) || ended != ended2 || bad != bad2 {
			a.t.Fatalf("side %d: Read %q %v %v and %q %v %v", side, x, ended, bad, y, ended2, bad2)
		}
	default:
		if bad, bad2 := a.close(side), b.close(side); bad != bad2 {
			a.t.Fatalf("side %d: Close %v and %v", side, bad, bad2)
		}
	}
}

// S2: what an application saw over a path that loses, doubles and spoils, with clocks that go on, it can see where nothing of that happens and no time passes.
func TestNotSeen(t *testing.T) {
	rows := 300
	if testing.Short() {
		rows = 50
	}
	d := dice(2)
	read := 0
	for range rows {
		s := someWorld(t, &d, 100)
		c := s.c
		c.Bag, c.Paths, c.Sched = api.MaxBag, 8, api.Blest
		w := newWorld(t, c)
		for range 400 {
			if d.one(4) {
				alike(&d, s, w)
			} else if s.someStep(&d); s.inError() || s.forged > 0 {
				break
			}
			w.follow(s)
		}
		read += len(s.read[0]) + len(s.read[1])
	}
	if read < 15*rows {
		t.Errorf("%d bytes read in %d rows", read, rows)
	}
}
