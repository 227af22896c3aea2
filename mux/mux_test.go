package mux_test

import (
	"math"
	"slices"
	"strings"
	"testing"

	"braid/api"
	"braid/mux"
)

// The chapter's examples 1 to 4.
func TestExamples(t *testing.T) {
	a, b := begin(t, 0, small()), begin(t, 1, small())
	a.open(0, 1, 1, api.OK)
	a.open(3, 2, 3, api.OK)
	a.open(0, 1, 0, fullErr)
	a.open(8, 1, 0, classErr)
	a.write(1, "abcdefghijklmnopqrst", 12, api.OK)
	got := a.to(b)
	if want := []api.MuxFrame{opens(1, 0, 1), opens(3, 3, 2), data(1, "abcd"), data(1, "efgh")}; !slices.EqualFunc(got, want, sameFrame) {
		t.Errorf("example 1: %v", got)
	}
	b.accept(1, 3, 0)
	b.read(1, 5, "abcde")
	if got := b.to(a); !slices.EqualFunc(got, []api.MuxFrame{room(1, 13)}, sameFrame) {
		t.Errorf("example 2: %v", got)
	}
	if got := a.to(b); !slices.EqualFunc(got, []api.MuxFrame{data(1, "ijkl")}, sameFrame) {
		t.Errorf("example 2: %v", got)
	}
	a.holds(1, 0, 0)
	a.close(1, api.OK)
	a.halves(1, api.HalfEnded, api.HalfOpen)
	a.write(1, "x", 0, shutErr)
	if got := a.to(b); !slices.EqualFunc(got, []api.MuxFrame{end(1)}, sameFrame) {
		t.Errorf("example 3: %v", got)
	}
	b.read(1, 100, "fghijkl")
	b.ends(1, 1)
	b.write(1, "yes", 3, api.OK)
	b.close(1, api.OK)
	b.halves(1, api.HalfShut, api.HalfEnded)
	b.to(a)
	a.read(1, 3, "yes")
	a.ends(1, 0)
	a.unread(1, streamErr)
	b.unread(1, streamErr)

	b.stop(3, 7, api.OK)
	b.to(a)
	a.halves(3, api.HalfReset, api.HalfOpen)
	a.write(3, "x", 0, stopErr)
	if got := a.to(b); !slices.EqualFunc(got, []api.MuxFrame{reset(3, 7)}, sameFrame) {
		t.Errorf("example 4: %v", got)
	}
	b.reset(3, 9, api.OK)
	b.to(a)
	a.views(api.MuxView{Stream: 3, Class: 3, Share: 2, Sending: 3, Getting: 3, Code: 7})
	a.unread(3, resetErr)
	a.there()
	a.unread(3, streamErr)
}

// The chapter's example 5.
func TestExampleAway(t *testing.T) {
	a, b := begin(t, 0, small()), begin(t, 1, small())
	b.open(0, 1, 2, api.OK)
	a.away(5, api.OK)
	a.to(b)
	b.open(0, 1, 0, awayErr)
	b.to(a)
	a.out(stop(2, 5), reset(2, 5))
	a.accept(0)
}

// The chapter's example 6.
func TestExampleBroken(t *testing.T) {
	a := begin(t, 0, small())
	a.breaksBytes(streamErr, []byte{2, 9, 1, 0x61})
	a.stat(api.MuxStat{Broken: 205})
	answersBroken(a)
}

// answersBroken awaits ErrMuxBroken of every call that has an Errno, whatever else is wrong with it.
func answersBroken(c check) {
	c.t.Helper()
	c.open(0, 1, 0, brokenErr)
	c.open(-1, 0, 0, brokenErr)
	for _, id := range []uint64{0, 1, 2, 3, 4, greatest} {
		c.write(id, "x", 0, brokenErr)
		c.unread(id, brokenErr)
		c.close(id, brokenErr)
		c.reset(id, 1, brokenErr)
		c.stop(id, 1, brokenErr)
	}
	c.ping(1, brokenErr)
	c.away(1, brokenErr)
	if e := c.m.Feed(nil); e != brokenErr {
		c.t.Errorf("Feed of nothing: %d", e)
	}
	if e := c.m.Feed([]byte{api.MuxPong, 1}); e != brokenErr {
		c.t.Errorf("Feed: %d", e)
	}
	for _, most := range []int{math.MinInt, -1, 0, 1, 1000, math.MaxInt} {
		if b := c.m.Out(most); len(b) != 0 {
			c.t.Errorf("Out(%d): %x", most, b)
		}
	}
}

// P20.1: each number at both ends of its bounds and just beyond them.
func TestNewBounds(t *testing.T) {
	set := map[string]func(c *api.MuxConfig, n int64){
		"Own.All":      func(c *api.MuxConfig, n int64) { c.Own.All = uint64(n) },
		"Own.Each":     func(c *api.MuxConfig, n int64) { c.Own.Each = uint64(n) },
		"Own.Streams":  func(c *api.MuxConfig, n int64) { c.Own.Streams = int(n) },
		"Peer.All":     func(c *api.MuxConfig, n int64) { c.Peer.All = uint64(n) },
		"Peer.Each":    func(c *api.MuxConfig, n int64) { c.Peer.Each = uint64(n) },
		"Peer.Streams": func(c *api.MuxConfig, n int64) { c.Peer.Streams = int(n) },
		"Hold":         func(c *api.MuxConfig, n int64) { c.Hold = int(n) },
		"Quantum":      func(c *api.MuxConfig, n int64) { c.Quantum = int(n) },
	}
	most := map[string]int64{
		"Own.All": 1 << 40, "Own.Each": 1 << 40, "Own.Streams": 1022, "Peer.All": 1 << 40, "Peer.Each": 1 << 40, "Peer.Streams": 1022,
		"Hold": 1 << 24, "Quantum": 65536,
	}
	for name, change := range set {
		for _, n := range []int64{math.MinInt64, -1, 0, 1, 2, most[name] - 1, most[name], most[name] + 1, math.MaxInt64} {
			c := small()
			change(&c, n)
			m, e := mux.New(0, c)
			may := 1 <= n && n <= most[name]
			if may && (m == nil || e != api.OK) || !may && (m != nil || e != configErr) {
				t.Errorf("%s %d: %v, %d", name, n, m != nil, e)
			}
		}
	}
}

// P20.1: the Streams of both together at MaxFair and one more, and each by itself at its own bound.
func TestNewStreamsTogether(t *testing.T) {
	for _, x := range []struct {
		own, peer int
		want      api.Errno
	}{
		{512, 512, api.OK}, {512, 513, configErr}, {513, 512, configErr}, {1023, 1, api.OK}, {1, 1023, api.OK}, {1023, 2, configErr}, {2, 1023, configErr},
		{1024, 1, configErr}, {1, 1024, configErr}, {1024, 1024, configErr}, {1024, 0, configErr}, {0, 1024, configErr}, {-1, 1024, configErr}, {1025, -1, configErr},
		{math.MaxInt, math.MaxInt, configErr}, {math.MaxInt, 1, configErr}, {math.MinInt, math.MinInt, configErr}, {math.MinInt, 1, configErr},
	} {
		c := small()
		c.Own.Streams, c.Peer.Streams = x.own, x.peer
		if m, e := mux.New(1, c); e != x.want || (m == nil) != (e != api.OK) {
			t.Errorf("Streams %d and %d: %d, want %d", x.own, x.peer, e, x.want)
		}
	}
}

// P20.1: a side is its lowest bit: which numbers its streams have, and the peer's.
func TestSides(t *testing.T) {
	for _, x := range []struct {
		side       int
		own, peers uint64
	}{{0, 1, 2}, {1, 2, 1}, {2, 1, 2}, {3, 2, 1}, {-1, 2, 1}, {-2, 1, 2}, {math.MaxInt, 2, 1}, {math.MinInt, 1, 2}} {
		c := begin(t, x.side, small())
		c.stat(api.MuxStat{})
		c.views()
		c.out()
		c.pongs()
		c.accept(0)
		c.open(0, 1, x.own, api.OK)
		c.open(0, 1, x.own+2, api.OK)
		c.hears(opens(x.peers, 0, 1))
		c.accept(x.peers, 0)
		c.hears(opens(x.peers+2, 0, 1))
		c.accept(x.peers+2, 0)
		c.stat(api.MuxStat{Opened: x.own + 2, Heard: x.peers + 2})
		c.breaks(api.ErrCreditId, opens(x.own+4, 0, 1))
	}
}

// P20.1: own is what this side grants, peer what the other one does.
func TestWhoseRooms(t *testing.T) {
	c := begin(t, 0, api.MuxConfig{Own: rooms(7, 5, 1), Peer: rooms(9, 6, 2), Hold: 100, Quantum: 100})
	c.open(0, 1, 1, api.OK)
	c.open(0, 1, 3, api.OK)
	c.open(0, 1, 0, fullErr)
	c.fill(1, 20)
	c.fill(3, 20)
	c.out(opens(1, 0, 1), opens(3, 0, 1), data(1, "xxxxxx"), data(3, "xxx"))
	c.hears(data(1, "abcde"), data(3, "fg"), opens(2, 0, 1))
	c.breaks(api.ErrCreditMany, opens(4, 0, 1))
}

// 'Functions': every call of a Mux that New did not give.
func TestNotGiven(t *testing.T) {
	for _, m := range []*mux.Mux{nil, {}} {
		c := check{t, m}
		for range 2 {
			c.open(0, 1, 0, configErr)
			c.open(9, 0, 0, configErr)
			for _, id := range []uint64{0, 1, greatest} {
				c.write(id, "x", 0, configErr)
				c.unread(id, configErr)
				c.close(id, configErr)
				c.reset(id, 1, configErr)
				c.stop(id, 1, configErr)
			}
			c.ping(1, configErr)
			c.away(1, configErr)
			for _, b := range [][]byte{nil, {7, 1}, {0}} {
				if e := m.Feed(b); e != configErr {
					t.Errorf("Feed: %d", e)
				}
			}
			for _, most := range []int{-1, 0, 1, 100} {
				if b := m.Out(most); len(b) != 0 {
					t.Errorf("Out: %x", b)
				}
			}
			c.accept(0)
			c.pongs()
			c.stat(api.MuxStat{})
			c.views()
		}
	}
}

// P20.2: classes and shares, at their bounds and beyond; Stat and OPEN bear them.
func TestOpenClass(t *testing.T) {
	c := begin(t, 0, wide())
	for _, x := range [][2]int{{-1, 1}, {8, 1}, {0, 0}, {0, 256}, {0, -1}, {math.MinInt, 1}, {math.MaxInt, 1}, {0, math.MinInt}, {0, math.MaxInt}, {8, 0}} {
		c.open(x[0], x[1], 0, classErr)
	}
	c.out()
	c.stat(api.MuxStat{})
	c.open(0, 1, 1, api.OK)
	c.open(7, 255, 3, api.OK)
	c.open(0, 255, 5, api.OK)
	c.open(7, 1, 7, api.OK)
	c.stat(api.MuxStat{Opened: 7})
	c.views(api.MuxView{Stream: 1, Share: 1}, api.MuxView{Stream: 3, Class: 7, Share: 255}, api.MuxView{Stream: 5, Share: 255}, api.MuxView{Stream: 7, Class: 7, Share: 1})
	c.out(opens(1, 0, 1), opens(3, 7, 255), opens(5, 0, 255), opens(7, 7, 1))
}

// P20.2: up to the last number that the book has, and on as soon as one is over; the errors in their order.
func TestOpenFull(t *testing.T) {
	c := begin(t, 1, config(20, 8, 3, 12, 4))
	for id := uint64(2); id <= 6; id += 2 {
		c.open(0, 1, id, api.OK)
	}
	c.open(0, 1, 0, fullErr)
	c.open(0, 0, 0, classErr)
	c.reset(4, 1, api.OK)
	c.open(0, 1, 0, fullErr) // its getting half is open
	c.hears(end(4))
	c.there(2, 4, 6) // it is over: nobody has been told its end, but the book has closed it
	c.open(0, 1, 8, api.OK)
	c.open(0, 1, 0, fullErr)
	c.hears(away(8, 0))
	c.open(0, 1, 0, awayErr)
	c.open(8, 1, 0, classErr)
	c.stop(6, 1, api.OK)
	c.hears(reset(6, 1))
	c.reset(6, 1, api.OK)
	c.open(0, 1, 0, awayErr) // there would be a number now
	c.stat(api.MuxStat{Opened: 8, Gone: true})
	c.breaks(streamErr, end(1))
	c.open(8, 1, 0, brokenErr)
}

// P20.2: many streams, as many as both sides may have together.
func TestManyStreams(t *testing.T) {
	k := config(1<<20, 1<<10, 512, 100, 10)
	a, b := begin(t, 0, k), begin(t, 1, k)
	for i := range uint64(512) {
		one, e := a.m.Open(int(i%8), 1)
		two, f := b.m.Open(int(i%8), 1)
		if one != 1+2*i || two != 2+2*i || e != api.OK || f != api.OK {
			t.Fatal(one, two, e, f)
		}
		a.m.Write(one, []byte("odd"))
		b.m.Write(two, []byte("even"))
	}
	a.open(0, 1, 0, fullErr)
	b.open(0, 1, 0, fullErr)
	a.to(b)
	b.to(a)
	for i := range uint64(512) {
		a.accept(2 + 2*i)
		b.accept(1 + 2*i)
		p, _, _ := a.m.Read(2+2*i, 9)
		q, _, _ := b.m.Read(1+2*i, 9)
		if string(p) != "even" || string(q) != "odd" {
			t.Fatalf("%q, %q", p, q)
		}
	}
	a.accept(0)
	b.accept(0)
}

// P20.3: in the order of numbers, each once; a stream that is over is still given, and a broken mux still has them.
func TestAccept(t *testing.T) {
	c := begin(t, 0, config(100, 50, 9, 12, 4))
	c.accept(0, 0)
	c.hears(opens(2, 0, 1), opens(4, 0, 1), opens(6, 0, 1))
	c.accept(2)
	c.hears(reset(4, 1), opens(8, 0, 1), end(6), opens(10, 0, 1))
	c.stop(4, 1, api.OK)
	c.reset(4, 1, api.OK)
	c.close(6, api.OK)
	c.there(2, 4, 6, 8, 10)
	c.accept(4)
	c.there(2, 6, 8, 10) // it was over and deaf: only Accept had not given it
	c.breaks(streamErr, end(99))
	c.accept(6, 8, 10, 0, 0)
	c.there(2, 6, 8, 10)
}

// P20.3, P20.12: behind a break too a stream is forgotten as soon as Accept has given it.
func TestAcceptBehindBreak(t *testing.T) {
	c := begin(t, 0, small())
	c.hears(opens(2, 0, 1), end(2), opens(4, 0, 1))
	c.close(2, api.OK)
	c.ends(2, 1)
	c.there(2, 4)
	c.breaks(streamErr, end(6))
	c.accept(2)
	c.there(4)
	c.accept(4, 0)
	c.there(4)
}

// P20.4 to P20.8: streams that nobody has accepted yet are there, and may be used.
func TestUsedAheadOfAccept(t *testing.T) {
	c := begin(t, 1, small())
	c.hears(opens(1, 2, 3), data(1, "abc"), opens(3, 0, 1))
	c.read(1, 2, "ab")
	c.write(1, "x", 1, api.OK)
	c.close(1, api.OK)
	c.reset(3, 4, api.OK)
	c.stop(3, 5, api.OK)
	c.out(reset(3, 4), stop(3, 5), data(1, "x"), end(1))
	c.views(api.MuxView{Stream: 1, Class: 2, Share: 3, Sending: api.HalfEnded, Ready: 1}, api.MuxView{Stream: 3, Share: 1, Sending: api.HalfReset, Deaf: true})
	c.accept(1, 3, 0)
}

// P20.9: numbers up to MaxMuxNumber, and above; PONGs are noted, and asked for once.
func TestPing(t *testing.T) {
	c := begin(t, 0, small())
	for _, n := range []uint64{0, 1, top - 1, top, top + 1, 1 << 63, greatest} {
		c.ping(n, api.OK)
	}
	c.out(ping(0), ping(1), ping(top-1), ping(top), ping(top), ping(top), ping(top))
	c.pongs()
	c.hears(pong(3), pong(0))
	c.hears(pong(top), pong(3))
	c.pongs(3, 0, top, 3)
	c.pongs()
	c.hears(pong(9))
	c.pongs(9)
	c.pongs()
	c.out()
}

// P20.9: PONGs that came ahead of a break can be asked for behind it, once.
func TestPongsBehindBreak(t *testing.T) {
	c := begin(t, 0, small())
	c.hears(pong(4))
	c.breaks(streamErr, pong(5), end(1), pong(6))
	c.ping(1, brokenErr)
	c.pongs(4, 5)
	c.pongs()
}

// P20.9, P20.11: there and back, over two muxes.
func TestPingThereAndBack(t *testing.T) {
	a, b := begin(t, 0, small()), begin(t, 1, small())
	a.ping(7, api.OK)
	a.ping(greatest, api.OK)
	b.ping(1, api.OK)
	a.to(b)
	b.to(a)
	a.to(b)
	a.pongs(7, top)
	b.pongs(1)
	a.out()
	b.out()
}

// P20.10: with streams heard, and none; twice: the second one changes nothing, its code neither.
func TestAway(t *testing.T) {
	c := begin(t, 0, small())
	c.away(5, api.OK)
	c.stat(api.MuxStat{Away: true})
	c.away(6, api.OK)
	c.out(away(0, 5))
	c.away(7, api.OK)
	c.out()
	c.hears(opens(2, 1, 2))
	c.out(stop(2, 5), reset(2, 5))
	c.stat(api.MuxStat{Away: true, Heard: 2})
	c.views(api.MuxView{Stream: 2, Class: 1, Share: 2, Sending: api.HalfReset, Deaf: true})

	c = begin(t, 0, small())
	c.hears(opens(2, 0, 1), opens(4, 0, 1))
	c.away(top+9, api.OK)
	c.out(away(4, top))
	c.open(0, 1, 1, api.OK) // only the peer's are turned away

	c = begin(t, 1, small())
	c.open(0, 1, 2, api.OK)
	c.hears(opens(1, 0, 1), opens(3, 0, 1))
	c.reset(1, 1, api.OK)
	c.stop(1, 1, api.OK)
	c.hears(reset(1, 0))
	c.accept(1)
	c.skip()
	c.away(0, api.OK)
	c.out(away(3, 0)) // its own streams do not count, nor what is forgotten
}

// P20.10: those that came ahead of it are accepted as ever; those behind it never are, and are forgotten without.
func TestTurnedAway(t *testing.T) {
	c := begin(t, 0, config(100, 50, 9, 12, 4))
	c.hears(opens(2, 0, 1), opens(4, 0, 1))
	c.accept(2)
	c.away(8, api.OK)
	c.hears(opens(6, 0, 1), data(6, "abc"), opens(8, 0, 1))
	c.out(away(4, 8), stop(6, 8), reset(6, 8), stop(8, 8), reset(8, 8))
	c.accept(4, 0)
	c.write(6, "x", 0, shutErr)
	c.close(6, shutErr)
	c.reset(6, 1, shutErr)
	c.unread(6, deafErr)
	c.stop(6, 1, deafErr)
	c.holds(6, 0, 0)
	c.hears(data(6, "def"), end(6))
	c.there(2, 4, 8)
	c.hears(reset(8, 3), opens(10, 0, 1), end(10))
	c.there(2, 4)
	c.accept(0)
	c.out(stop(10, 8), reset(10, 8))
	c.stat(api.MuxStat{Heard: 10, Away: true})
}

// P20.10: a turned away stream's bytes are used at once: they take nothing of the room of all together for good.
func TestTurnedAwayUsesNoRoom(t *testing.T) {
	c := begin(t, 0, config(6, 6, 2, 12, 4))
	c.away(1, api.OK)
	c.hears(opens(2, 0, 1))
	c.skip()
	c.hears(data(2, "ab"))
	c.out()
	c.hears(data(2, "c"))
	c.out(room(0, 9))
	c.hears(data(2, "def"))
	c.out(room(0, 12))
	c.breaks(api.ErrCreditOver, data(2, "g"))
}

// P20.10, P20.11: Away of both sides at once, with streams under way to both.
func TestAwayCross(t *testing.T) {
	a, b := begin(t, 0, small()), begin(t, 1, small())
	a.open(0, 1, 1, api.OK)
	b.open(0, 1, 2, api.OK)
	a.write(1, "abc", 3, api.OK)
	a.away(3, api.OK)
	b.away(4, api.OK)
	for range 3 {
		a.to(b)
		b.to(a)
	}
	a.open(0, 1, 0, awayErr)
	b.open(0, 1, 0, awayErr)
	a.write(1, "x", 0, stopErr)
	b.write(2, "x", 0, stopErr)
	a.unread(1, resetErr)
	b.unread(2, resetErr)
	a.there()
	b.there()
	a.stat(api.MuxStat{Opened: 1, Heard: 2, Away: true, Gone: true})
	b.stat(api.MuxStat{Opened: 2, Heard: 1, Away: true, Gone: true})
}

// 'Errors': of each call the one that stands first, where several apply.
func TestFirstError(t *testing.T) {
	c := begin(t, 0, small())
	c.open(0, 1, 1, api.OK)
	c.open(0, 1, 3, api.OK)
	for _, id := range []uint64{0, 2, 5, greatest} {
		c.write(id, "x", 0, streamErr)
		c.close(id, streamErr)
		c.reset(id, 1, streamErr)
		c.stop(id, 1, streamErr)
		c.unread(id, streamErr)
	}
	c.hears(reset(1, 2))
	c.stop(1, 1, api.OK)
	c.unread(1, deafErr) // deaf, and given up
	c.stop(1, 1, deafErr)
	c.unread(1, deafErr)
	c.close(1, api.OK)
	c.unread(1, streamErr)

	c.close(3, api.OK)
	c.hears(stop(3, 4)) // behind its end: this side has ended it, so it stays shut
	c.write(3, "x", 0, shutErr)
	c.close(3, shutErr)
	c.reset(3, 1, shutErr)
	c.open(9, 1, 0, classErr) // no class, the peer away, no number
	c.hears(away(3, 1))
	c.open(9, 1, 0, classErr)
	c.open(9, 0, 0, classErr)
	c.breaks(streamErr, end(2))
	answersBroken(c)
}

// P20.4: of no bytes, below, up to just Hold, and beyond it.
func TestWrite(t *testing.T) {
	for _, hold := range []int{1, 2, 12, 4096} {
		c := begin(t, 0, config(1<<20, 5, 1, hold, 100))
		c.open(0, 1, 1, api.OK)
		c.write(1, "", 0, api.OK)
		c.holds(1, 0, 0)
		text := strings.Repeat("a", hold)
		c.write(1, text[1:], hold-1, api.OK)
		c.holds(1, hold-1, 0)
		c.write(1, "bcd", 1, api.OK)
		c.holds(1, hold, 0)
		c.write(1, "e", 0, api.OK)
		c.write(1, "", 0, api.OK)
		c.holds(1, hold, 0)
		gone := min(5, hold)
		c.out(opens(1, 0, 1), data(1, (text[1:] + "b")[:gone]))
		c.holds(1, hold-gone, 0)
		c.write(1, text+text, gone, api.OK) // as many as went out
		c.holds(1, hold, 0)
	}
	if m, _ := mux.New(0, config(1<<20, 5, 1, api.MaxHold, 1)); m != nil {
		m.Open(0, 1)
		if n, e := m.Write(1, make([]byte, api.MaxHold+1)); n != api.MaxHold || e != api.OK {
			t.Errorf("Write of one more than MaxHold: %d, %d", n, e)
		}
	}
}
