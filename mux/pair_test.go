package mux_test

import (
	"bytes"
	"math"
	"testing"

	"braid/api"
	"braid/mux"
)

// half is what one side wrote on a stream, and what the other one read of it.
type half struct {
	wrote, read    []byte
	closed, told   bool
	given, unasked bool // Reset was called at the one end, Stop at the other
}

// pair is two muxes that are joined, with what is under way between them, and all that was written and read.
type pair struct {
	t     *testing.T
	c     [2]api.MuxConfig
	m     [2]*mux.Mux
	under [2][]byte // from this side to the other one
	ids   []uint64
	half  map[uint64]*[2]half // by stream and by the side that writes
}

func join(t *testing.T, a, b api.Rooms, hold, quantum int) *pair {
	p := &pair{t: t, half: map[uint64]*[2]half{}}
	p.c[0] = api.MuxConfig{Own: a, Peer: b, Hold: hold, Quantum: quantum}
	p.c[1] = api.MuxConfig{Own: b, Peer: a, Hold: hold, Quantum: quantum}
	for side := range 2 {
		m, e := mux.New(side, p.c[side])
		if e != api.OK {
			t.Fatal(e)
		}
		p.m[side] = m
	}
	return p
}

// move lets up to so many bytes go out of a side, and up to so many arrive at the other one.
func (p *pair) move(side, most, arrive int) bool {
	b := p.m[side].Out(most)
	p.under[side] = append(p.under[side], b...)
	n := min(arrive, len(p.under[side]))
	if e := p.m[1-side].Feed(p.under[side][:n]); e != api.OK {
		p.t.Fatalf("side %d is broken: %d", 1-side, p.m[1-side].Stat().Broken)
	}
	p.under[side] = p.under[side][n:]
	p.bounded()
	return len(b) > 0 || n > 0
}

// quiet lets everything go out and arrive, till neither has anything to give.
func (p *pair) quiet() {
	for p.move(0, math.MaxInt, math.MaxInt) || p.move(1, math.MaxInt, math.MaxInt) {
	}
}

// bounded is P20.15 and P20.18.
func (p *pair) bounded() {
	p.t.Helper()
	for side, m := range p.m {
		s, all := m.Stat(), uint64(0)
		for _, v := range s.Streams {
			all += uint64(v.Ready)
			if uint64(v.Ready) > p.c[side].Own.Each || v.Waiting > p.c[side].Hold {
				p.t.Fatalf("side %d: beyond its bounds: %+v", side, v)
			}
		}
		if all > p.c[side].Own.All || s.Broken != api.OK {
			p.t.Fatalf("side %d: %d bytes wait to be read; broken: %d", side, all, s.Broken)
		}
	}
}

func (p *pair) open(side, class, share int) (uint64, api.Errno) {
	id, e := p.m[side].Open(class, share)
	if e == api.OK {
		p.ids = append(p.ids, id)
		p.half[id] = &[2]half{}
	}
	return id, e
}

func (p *pair) write(side int, id uint64, b []byte) (int, api.Errno) {
	n, e := p.m[side].Write(id, b)
	if e == api.OK {
		h := &p.half[id][side]
		h.wrote = append(h.wrote, b[:n]...)
	}
	return n, e
}

// read is P20.16.
func (p *pair) read(side int, id uint64, n int) ([]byte, bool, api.Errno) {
	p.t.Helper()
	b, last, e := p.m[side].Read(id, n)
	if e != api.OK {
		return b, last, e
	}
	h := &p.half[id][1-side]
	h.read = append(h.read, b...)
	h.told = h.told || last
	if !bytes.HasPrefix(h.wrote, h.read) {
		p.t.Fatalf("stream %d: %q was written, %q read", id, h.wrote, h.read)
	}
	if last && (!h.closed || len(h.read) != len(h.wrote) || len(b) > 0) {
		p.t.Fatalf("stream %d: its end is told behind %d of %d bytes; closed: %v", id, len(h.read), len(h.wrote), h.closed)
	}
	return b, last, e
}

func (p *pair) close(side int, id uint64) api.Errno {
	e := p.m[side].Close(id)
	if e == api.OK {
		p.half[id][side].closed = true
	}
	return e
}

func (p *pair) reset(side int, id uint64) api.Errno {
	e := p.m[side].Reset(id, 1)
	if e == api.OK {
		p.half[id][side].given = true
	}
	return e
}

func (p *pair) stop(side int, id uint64) api.Errno {
	e := p.m[side].Stop(id, 2)
	if e == api.OK {
		p.half[id][1-side].unasked = true
	}
	return e
}

func (d *dice) anyRooms() api.Rooms {
	return rooms(uint64(1+d.below(60)), uint64(1+d.below(30)), 1+d.below(5))
}

// anyCall is one at either side.
func (p *pair) anyCall(d *dice, gentle bool) {
	side, id := d.below(2), uint64(0)
	if len(p.ids) > 0 {
		id = p.ids[max(0, len(p.ids)-1-d.below(6))]
	}
	kind := d.below(40)
	if gentle && kind >= 38 {
		return
	}
	switch {
	case kind < 5:
		p.open(side, d.below(3), 1+d.below(4))
	case kind < 8:
		p.m[side].Accept()
	case kind < 14:
		p.write(side, id, d.text(d.below(40)))
	case kind < 20:
		p.read(side, id, d.below(40))
	case kind < 22:
		p.close(side, id)
	case kind < 36:
		p.move(side, 1+d.below(40), d.below(40))
	case kind < 37:
		p.m[side].Ping(3)
	case kind < 38:
		p.m[side].Accept()
	case kind < 39:
		p.reset(side, id)
	case d.below(300) == 0:
		p.m[side].Away(4)
	default:
		p.stop(side, id)
	}
}

// drain reads all that comes, till nothing comes any more.
func (p *pair) drain() {
	for {
		p.quiet()
		more := false
		for _, id := range p.ids {
			for side := range 2 {
				for {
					b, _, e := p.read(side, id, 7)
					if e != api.OK || len(b) == 0 {
						break
					}
					more = true
				}
			}
		}
		if !more {
			return
		}
	}
}

// whole is the second half of P20.17: of halves that were neither given up nor unasked for everything has come, and every Close was told.
func (p *pair) whole() (counted int) {
	p.t.Helper()
	for _, id := range p.ids {
		for side := range 2 {
			h := p.half[id][side]
			if h.given || h.unasked {
				continue
			}
			counted++
			if !bytes.Equal(h.read, h.wrote) || h.told != h.closed {
				p.t.Fatalf("stream %d, side %d: %d of %d bytes have come; closed %v, told %v; %+v; %+v", id, side, len(h.read), len(h.wrote), h.closed, h.told, p.m[0].Stat(), p.m[1].Stat())
			}
		}
	}
	return counted
}

// P20.15 to P20.18: any calls, any rooms, any pieces.
func TestPair(t *testing.T) {
	streams, halves, long := 0, 0, 0
	for seed := range 600 {
		d := dice(seed)
		p := join(t, d.anyRooms(), d.anyRooms(), 1+d.below(50), 1+d.below(20))
		gentle := seed%2 == 0
		away := false
		for range 300 {
			p.anyCall(&d, gentle)
		}
		away = p.m[0].Stat().Away || p.m[1].Stat().Away
		p.drain()
		if !away {
			halves += p.whole()
		}
		streams += len(p.ids)
		for _, id := range p.ids {
			long = max(long, len(p.half[id][0].read))
		}
	}
	if streams < 5000 || halves < 5000 || long < 100 {
		t.Errorf("only %d streams, %d halves, at most %d bytes", streams, halves, long)
	}
}

// P20.15, P20.12: streams come and go, many more than the book and the turns have places; nothing of them is left at the end.
func TestComeAndGo(t *testing.T) {
	p := join(t, rooms(9, 5, 2), rooms(7, 6, 3), 10, 3)
	d := dice(20)
	for round := range 1200 {
		for side := range 2 {
			id, e := p.open(side, d.below(8), 1+d.below(255))
			if e != api.OK {
				t.Fatalf("round %d: Open: %d", round, e)
			}
			p.write(side, id, d.text(d.below(20)))
			switch d.below(3) {
			case 0:
				p.reset(side, id)
			default:
				p.close(side, id)
			}
		}
		p.drain()
		for side := range 2 {
			id, ok := p.m[side].Accept()
			if !ok {
				t.Fatal("nothing to accept")
			}
			p.write(side, id, d.text(d.below(20)))
			switch d.below(3) {
			case 0:
				p.stop(side, id)
				p.reset(side, id)
			default:
				p.close(side, id)
			}
		}
		p.drain()
		p.drain()
		for side := range 2 {
			if s := p.m[side].Stat().Streams; len(s) > 0 {
				t.Fatalf("round %d: %+v is left", round, s)
			}
		}
		p.ids = nil // nobody asks for them any more
	}
	if s := p.m[0].Stat(); s.Opened != 2399 || s.Heard != 2400 {
		t.Errorf("%+v", s)
	}
}

// act is a call of a program; of stream -1: turns till both are quiet.
type act struct {
	stream, side, kind, n int
}

// anyProgram is calls on so many streams, with turns between them.
func (d *dice) anyProgram(streams int) []act {
	var l []act
	for range 60 {
		if d.below(4) == 0 {
			l = append(l, act{stream: -1})
			continue
		}
		l = append(l, act{d.below(streams), d.below(2), d.below(30), d.below(12)})
	}
	return append(l, act{stream: -1})
}

// seen is what those who use one stream see: the answers to its calls, and what can be read behind turns.
type seen struct {
	bytes []byte
	n     int
	last  bool
	e     api.Errno
}

func same(a, b seen) bool {
	return bytes.Equal(a.bytes, b.bytes) && a.n == b.n && a.last == b.last && a.e == b.e
}

// play plays a program's calls on those streams that are wanted: what is seen of each.
func play(t *testing.T, c api.Rooms, program []act, wanted func(stream int) bool, streams int) [][]seen {
	p := join(t, c, c, 9, 3)
	ids := make([]uint64, streams)
	for i := range streams {
		if wanted(i) {
			id, e := p.open(i%2, i%3, 1+i%4)
			if e != api.OK {
				t.Fatal(e)
			}
			ids[i] = id
		}
	}
	p.quiet()
	out := make([][]seen, streams)
	for _, a := range program {
		if a.stream < 0 {
			p.quiet()
			for i, id := range ids {
				for side := range 2 {
					out[i] = append(out[i], seen{n: p.ready(side, id)})
				}
			}
			continue
		}
		if wanted(a.stream) {
			out[a.stream] = append(out[a.stream], p.act(a, ids[a.stream]))
		}
	}
	return out
}

// ready is how many bytes of a stream can be read at a side.
func (p *pair) ready(side int, id uint64) int {
	for _, v := range p.m[side].Stat().Streams {
		if v.Stream == id {
			return v.Ready
		}
	}
	return 0
}

// act makes one call. What is written tells by itself where it belongs.
func (p *pair) act(a act, id uint64) seen {
	switch {
	case a.kind < 14:
		b := make([]byte, a.n)
		for i := range b {
			b[i] = byte(len(p.half[id][a.side].wrote) + i)
		}
		n, e := p.write(a.side, id, b)
		return seen{n: n, e: e}
	case a.kind < 26:
		b, last, e := p.read(a.side, id, a.n)
		return seen{bytes: b, last: last, e: e}
	case a.kind < 28:
		return seen{e: p.close(a.side, id)}
	case a.kind < 29:
		return seen{e: p.reset(a.side, id)}
	}
	return seen{e: p.stop(a.side, id)}
}

// P20.17: what can be read of a stream hangs on its own calls alone, if all together have room enough: the same is seen of it with the others' calls, and without.
func TestNoneBarsAnother(t *testing.T) {
	read := 0
	for seed := range 150 {
		d := dice(seed)
		streams := 2 + d.below(4)
		each := uint64(1 + d.below(12))
		c := rooms(2*each*uint64(streams), each, streams)
		program := d.anyProgram(streams)
		all := play(t, c, program, func(int) bool { return true }, streams)
		for i := range streams {
			alone := play(t, c, program, func(stream int) bool { return stream == i }, streams)
			if len(all[i]) != len(alone[i]) {
				t.Fatal("another number of calls")
			}
			for k := range all[i] {
				if !same(all[i][k], alone[i][k]) {
					t.Fatalf("seed %d, stream %d, answer %d: %+v among others, %+v alone", seed, i, k, all[i][k], alone[i][k])
				}
				read += len(all[i][k].bytes)
			}
		}
	}
	if read < 2000 {
		t.Errorf("only %d bytes were read", read)
	}
}

// P20.17: a stream that nobody reads takes its own room alone, however much is written on it.
func TestUnreadBarsNobody(t *testing.T) {
	p := join(t, rooms(40, 10, 2), rooms(40, 10, 2), 100, 5)
	p.open(0, 0, 255)
	p.open(0, 7, 1)
	for range 50 {
		p.write(0, 1, make([]byte, 100))
		n, _ := p.write(0, 3, []byte("abcdefghij"))
		p.quiet()
		if b, _, e := p.read(1, 3, 100); string(b) != "abcdefghij" || n != 10 || e != api.OK {
			t.Fatalf("%q, %d, %d", b, n, e)
		}
		if n := p.ready(1, 1); n != 10 {
			t.Fatalf("of stream 1 %d bytes can be read", n)
		}
	}
}

// P20.17: with the least rooms all comes, if it is read; streams that are deaf take nothing.
func TestLeastRooms(t *testing.T) {
	p := join(t, rooms(1, 1, 3), rooms(1, 1, 3), 50, 1)
	for range 3 {
		p.open(0, 0, 1)
	}
	for i := range 3 {
		p.write(0, p.ids[i], []byte("the least that can be"))
		p.close(0, p.ids[i])
	}
	p.quiet()
	p.stop(1, 3)
	p.drain()
	if n := p.whole(); n != 5 {
		t.Errorf("%d halves", n)
	}
	if h := p.half[1][0]; string(h.read) != "the least that can be" || !h.told {
		t.Errorf("%q, %v", h.read, h.told)
	}
}
