package mux_test

import (
	"bytes"
	"slices"
	"testing"

	"braid/api"
	"braid/mux"
)

// both is a mux beside the second reckoning: each call is made of both, and their answers and looks must be the same.
type both struct {
	t     *testing.T
	m     *mux.Mux
	b     *byBook
	c     api.MuxConfig
	count map[api.Errno]int // of answers, and of rules that were broken
	total int
}

func newBoth(t *testing.T, side int, c api.MuxConfig) *both {
	m, e := mux.New(side, c)
	if e != api.OK {
		t.Fatal(e)
	}
	return &both{t: t, m: m, b: newByBook(side, c), c: c, count: map[api.Errno]int{}}
}

// agree holds what a call answered, and both looks, against each other.
func (x *both) agree(same bool, got, want api.Errno, what string, args ...any) {
	x.t.Helper()
	x.total++
	x.count[want]++
	if !same || got != want {
		x.t.Fatalf("call %d, %s%v: error %d, want %d; or another answer", x.total, what, args, got, want)
	}
	a, b := x.m.Stat(), x.b.look()
	if !sameStat(a, b) {
		x.t.Fatalf("call %d, %s%v: Stat\n%+v, want\n%+v", x.total, what, args, a, b)
	}
	x.bounded(a)
}

// bounded is P20.18, whatever the peer does.
func (x *both) bounded(s api.MuxStat) {
	x.t.Helper()
	all := 0
	for _, v := range s.Streams {
		all += v.Ready
		if uint64(v.Ready) > x.c.Own.Each || v.Waiting > x.c.Hold {
			x.t.Fatalf("beyond its bounds: %+v", v)
		}
	}
	if uint64(all) > x.c.Own.All {
		x.t.Fatalf("%d bytes wait to be read", all)
	}
}

func (x *both) open(class, share int) {
	x.t.Helper()
	id, e := x.m.Open(class, share)
	want, f := x.b.open(class, share)
	x.agree(id == want, e, f, "Open", class, share)
}

func (x *both) accept() {
	x.t.Helper()
	id, ok := x.m.Accept()
	want, is := x.b.accept()
	x.agree(id == want && ok == is, 0, 0, "Accept")
}

func (x *both) write(id uint64, p []byte) {
	x.t.Helper()
	n, e := x.m.Write(id, p)
	want, f := x.b.write(id, p)
	x.agree(n == want, e, f, "Write", id, len(p))
}

func (x *both) read(id uint64, n int) {
	x.t.Helper()
	p, last, e := x.m.Read(id, n)
	want, end, f := x.b.read(id, n)
	x.agree(bytes.Equal(p, want) && last == end, e, f, "Read", id, n)
}

func (x *both) close(id uint64) {
	x.t.Helper()
	x.agree(true, x.m.Close(id), x.b.close(id), "Close", id)
}

func (x *both) reset(id, code uint64) {
	x.t.Helper()
	x.agree(true, x.m.Reset(id, code), x.b.reset(id, code), "Reset", id, code)
}

func (x *both) stop(id, code uint64) {
	x.t.Helper()
	x.agree(true, x.m.Stop(id, code), x.b.stop(id, code), "Stop", id, code)
}

func (x *both) ping(n uint64) {
	x.t.Helper()
	x.agree(true, x.m.Ping(n), x.b.ping(n), "Ping", n)
}

func (x *both) pongs() {
	x.t.Helper()
	x.agree(slices.Equal(x.m.Pongs(), x.b.pongs()), 0, 0, "Pongs")
}

func (x *both) away(code uint64) {
	x.t.Helper()
	x.agree(true, x.m.Away(code), x.b.away(code), "Away", code)
}

func (x *both) feed(p []byte) {
	x.t.Helper()
	whole := x.b.stat.Broken == 0
	e := x.m.Feed(p)
	x.agree(true, e, x.b.feed(p), "Feed", p)
	if whole && x.b.stat.Broken != 0 {
		x.count[x.b.stat.Broken]++
	}
}

func (x *both) hears(l ...api.MuxFrame) {
	x.t.Helper()
	x.feed(wire(x.t, l...))
}

func (x *both) out(most int) {
	x.t.Helper()
	x.agree(bytes.Equal(x.m.Out(most), x.b.out(most)), 0, 0, "Out", most)
}

// last takes all that goes out, and all that can be accepted: what lay hidden shows.
func (x *both) last() {
	x.t.Helper()
	x.out(1 << 40)
	x.hears(room(0, 1000))
	x.out(1 << 40)
	x.pongs()
	for range 5 {
		x.accept()
	}
	x.open(0, 1)
	x.out(1 << 40)
}

// The states in which the halves of a stream can be, and how they are brought about of stream 1 at side 0.
func sendings() []func(x *both) {
	return []func(x *both){
		func(x *both) {},
		func(x *both) { x.write(1, []byte("abcdefghijkl")) },
		func(x *both) { x.write(1, []byte("abcdefghijkl")); x.out(1 << 40) },
		func(x *both) { x.write(1, []byte("abcdefghijkl")); x.close(1) },
		func(x *both) { x.write(1, []byte("abcdefghijkl")); x.close(1); x.out(1 << 40) },
		func(x *both) { x.write(1, []byte("ab")); x.close(1); x.out(5) },
		func(x *both) { x.close(1) },
		func(x *both) { x.reset(1, 3) },
		func(x *both) { x.write(1, []byte("abc")); x.out(6); x.reset(1, 3) },
		func(x *both) { x.hears(stop(1, 4)) },
		func(x *both) { x.write(1, []byte("abc")); x.close(1); x.hears(stop(1, 4)) },
	}
}

func gettings() []func(x *both) {
	return []func(x *both){
		func(x *both) {},
		func(x *both) { x.hears(data(1, "abcdef")) },
		func(x *both) { x.hears(data(1, "abcdef"), end(1)) },
		func(x *both) { x.hears(data(1, "abcdef"), end(1)); x.read(1, 100) },
		func(x *both) { x.hears(end(1)); x.read(1, 0) },
		func(x *both) { x.hears(end(1)) },
		func(x *both) { x.hears(data(1, "abcdef"), reset(1, 5)) },
		func(x *both) { x.hears(reset(1, 5)); x.read(1, 1) },
		func(x *both) { x.stop(1, 6) },
		func(x *both) { x.hears(data(1, "abcdef")); x.stop(1, 6) },
		func(x *both) { x.hears(data(1, "abcdef"), end(1)); x.stop(1, 6) },
		func(x *both) { x.stop(1, 6); x.hears(end(1)) },
		func(x *both) { x.hears(reset(1, 5)); x.stop(1, 6) },
		func(x *both) { x.stop(1, 6); x.hears(reset(1, 0)) },
	}
}

// P20.2 to P20.14: every frame and every call in each state of a stream, one behind the other, in either order of the halves.
func TestEachInEachState(t *testing.T) {
	acts := acts()
	for s, send := range sendings() {
		for g, get := range gettings() {
			for a, act := range acts {
				for order := range 2 {
					x := newBoth(t, 0, small())
					x.open(1, 2)
					if order == 0 {
						send(x)
						get(x)
					} else {
						get(x)
						send(x)
					}
					act(x)
					acts[(a+s+g)%len(acts)](x)
					x.last()
				}
			}
		}
	}
}

func acts() []func(x *both) {
	return []func(x *both){
		func(x *both) { x.write(1, []byte("xyz")) },
		func(x *both) { x.close(1) },
		func(x *both) { x.reset(1, 8) },
		func(x *both) { x.stop(1, 9) },
		func(x *both) { x.read(1, 0) },
		func(x *both) { x.read(1, 4) },
		func(x *both) { x.read(1, 100) },
		func(x *both) { x.away(1) },
		func(x *both) { x.out(3) },
		func(x *both) { x.out(100) },
		func(x *both) { x.hears(data(1, "m")) },
		func(x *both) { x.hears(data(1, "mnopqrst")) },
		func(x *both) { x.hears(data(1, "mnopqrstu")) },
		func(x *both) { x.hears(end(1)) },
		func(x *both) { x.hears(reset(1, 11)) },
		func(x *both) { x.hears(stop(1, 12)) },
		func(x *both) { x.hears(room(1, 10)) },
		func(x *both) { x.hears(room(1, 100), room(0, 100)) },
		func(x *both) { x.hears(opens(1, 0, 1)) },
		func(x *both) { x.hears(opens(2, 0, 1), data(2, "a")) },
		func(x *both) { x.hears(opens(3, 0, 1)) },
		func(x *both) { x.hears(ping(3), pong(4)) },
		func(x *both) { x.hears(away(1, 4)) },
		func(x *both) { x.hears(away(2, 4)) },
		func(x *both) { x.feed([]byte{0}) },
	}
}

// anyConfig is one in which everything is scarce, or some of it.
func (d *dice) anyConfig() api.MuxConfig {
	side := func() api.Rooms {
		return rooms(uint64(1+d.below(40)), uint64(1+d.below(20)), 1+d.below(4))
	}
	return api.MuxConfig{Own: side(), Peer: side(), Hold: 1 + d.below(30), Quantum: 1 + d.below(8)}
}

// id is mostly one of a stream that is there.
func (d *dice) id(x *both) uint64 {
	if s := x.b.look().Streams; len(s) > 0 && d.below(12) > 0 {
		return s[d.below(len(s))].Stream
	}
	return uint64(d.below(12))
}

func (d *dice) anyCode() uint64 {
	if d.below(20) == 0 {
		return []uint64{top, top + 1, greatest}[d.below(3)]
	}
	return uint64(d.below(5))
}

// frame is any that a peer could send: most of them break no rule.
func (d *dice) frame(x *both) api.MuxFrame {
	id := max(d.id(x), 1)
	switch d.below(16) {
	case 0, 1:
		if d.below(10) > 0 {
			id = x.b.nextOfPeer()
		}
		return opens(id, d.below(3), 1+d.below(3))
	case 2, 3, 4, 5, 6:
		return data(id, string(d.text(1+d.below(1+int(min(x.b.takes(id), 12))))))
	case 7, 8, 9:
		return room(id, uint64(d.below(80)))
	case 10:
		return room(0, uint64(d.below(150)))
	case 11:
		return end(id)
	case 12:
		return reset(id, min(d.anyCode(), top))
	case 13:
		return stop(id, min(d.anyCode(), top))
	case 14:
		if d.below(8) == 0 {
			return away(uint64(d.below(8)), 1)
		}
		return pong(min(d.anyCode(), top))
	}
	return ping(min(d.anyCode(), top))
}

// feed hears frames of which now and then one breaks a rule, in any pieces.
func (d *dice) feed(x *both) {
	var b []byte
	for range 1 + d.below(4) {
		f := d.frame(x)
		if x.b.rule(f) == api.OK || d.below(60) == 0 {
			b = append(b, wire(x.t, f)...)
		}
		if d.below(3) > 0 {
			x.feed(b)
			b = nil
		}
	}
	if d.below(200) == 0 {
		b = append(b, byte(10+d.below(20)))
	}
	for len(b) > 0 {
		n := 1 + d.below(len(b))
		x.feed(b[:n])
		b = b[n:]
	}
}

func (d *dice) call(x *both) {
	switch d.below(24) {
	case 0, 1:
		x.open(d.below(8)-d.below(20)/19, 1+d.below(3))
	case 2, 3:
		x.accept()
	case 4, 5, 6, 7, 8:
		x.write(d.id(x), d.text(d.below(20)))
	case 9, 10, 11, 12:
		x.read(d.id(x), d.below(14)-1)
	case 13:
		x.close(d.id(x))
	case 14:
		x.reset(d.id(x), d.anyCode())
	case 15:
		x.stop(d.id(x), d.anyCode())
	case 16:
		x.ping(d.anyCode())
	case 17:
		x.pongs()
	case 18:
		if d.below(20) == 0 {
			x.away(d.anyCode())
		}
	case 19, 20, 21:
		x.out(d.below(30) - 1)
	default:
		d.feed(x)
	}
}

// P20.2 to P20.14, P20.18, 0.2: any calls and any frames, against the book.
func TestAnyCalls(t *testing.T) {
	count := map[api.Errno]int{}
	for seed := range 1500 {
		d := dice(seed)
		x := newBoth(t, d.below(2), d.anyConfig())
		x.count = count
		for range 200 {
			d.call(x)
		}
		x.last()
	}
	for _, e := range []api.Errno{
		api.OK, brokenErr, classErr, awayErr, fullErr, streamErr, shutErr, stopErr, deafErr, resetErr,
		api.ErrCreditId, api.ErrCreditMany, api.ErrCreditOver, api.ErrMuxKind,
	} {
		if count[e] < 30 {
			t.Errorf("only %d answers were %d", count[e], e)
		}
	}
}
