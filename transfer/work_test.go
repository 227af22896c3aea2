package transfer_test

import (
	"math"
	"reflect"
	"slices"
	"strings"
	"testing"

	"braid/api"
	"braid/muxwire"
)

// frames is the frames of bytes.
func frames(t *testing.T, b []byte) []api.MuxFrame {
	t.Helper()
	var l []api.MuxFrame
	for len(b) > 0 {
		f, n, e := muxwire.Decode(b)
		if e != api.OK {
			t.Fatalf("no frame: %d", e)
		}
		l = append(l, f)
		b = b[n:]
	}
	return l
}

// wire is the bytes of frames.
func wire(t *testing.T, l ...api.MuxFrame) []byte {
	t.Helper()
	var all []byte
	for _, f := range l {
		b, e := muxwire.Encode(f)
		if e != api.OK {
			t.Fatalf("%v is no frame: %d", f, e)
		}
		all = append(all, b...)
	}
	return all
}

func opens(id uint64) api.MuxFrame {
	return api.MuxFrame{Kind: api.MuxOpen, Stream: id, Share: 1}
}

func data(id uint64, s string) api.MuxFrame {
	return api.MuxFrame{Kind: api.MuxBytes, Stream: id, Data: []byte(s)}
}

func ends(id uint64) api.MuxFrame { return api.MuxFrame{Kind: api.MuxEnd, Stream: id} }

func room(id, n uint64) api.MuxFrame {
	return api.MuxFrame{Kind: api.MuxRoom, Stream: id, N: n}
}

func stops(id uint64) api.MuxFrame {
	return api.MuxFrame{Kind: api.MuxStop, Stream: id, N: 1}
}

func resets(id uint64) api.MuxFrame {
	return api.MuxFrame{Kind: api.MuxReset, Stream: id, N: 1}
}

func away() api.MuxFrame { return api.MuxFrame{Kind: api.MuxAway} }

// hears feeds frames.
func (c check) hears(l ...api.MuxFrame) {
	c.t.Helper()
	c.feed(wire(c.t, l...), api.OK)
}

// goes holds the frames that go out against what is awaited.
func (c check) goes(want ...api.MuxFrame) {
	c.t.Helper()
	got := frames(c.t, c.x.Out(math.MaxInt))
	if !slices.EqualFunc(got, want, func(a, b api.MuxFrame) bool { return reflect.DeepEqual(a, b) }) {
		c.t.Errorf("there goes out %v, want %v", got, want)
	}
}

// P23.7: served streams by rising number, and behind them the fetches by rising number, in whatever order the bytes have come.
func TestOrder(t *testing.T) {
	cfg := config(rooms(1<<20, 8, 9), 1024, 2)
	c := begin(t, 0, cfg, nil)
	c.fetch("x", 0, 1, 1, api.OK)
	c.fetch("y", 0, 1, 2, api.OK)
	c.x.Out(1000)
	c.hears(opens(2), opens(4), data(4, "Mabcd"), data(3, "Y\x00\x09ab"), data(2, "Mabcd"), data(1, "Y\x00\x09ab"))
	c.goes(room(2, 13), room(4, 13), room(1, 13), room(3, 13))
	c.hears(data(3, "?????"), data(4, "??"), data(1, "?????"), data(2, "??"), ends(4), ends(2), opens(6), data(6, "M\x00"), ends(6))
	// A request that has ended is not read again, and what is too short is none.
	c.goes(resets(2), resets(4), room(1, 18), room(3, 18), data(6, "N"), ends(6))
	c.hears(data(3, "?????????"[:7]), data(1, "???????"))
	c.goes(room(1, 25), stops(1), room(3, 25), stops(3))
	c.stands(1, failed, 0, 1, 0)
	c.stands(2, failed, 0, 1, 0)
	c.serves(0)
}

// P23.7: once through: a stream that becomes free within the work is for who comes later in it.
func TestOnceThrough(t *testing.T) {
	cfg := config(rooms(1<<20, 1<<20, 1), 1024, 2)
	cfg.Mux.Peer.Each = 1
	for _, order := range [][2]string{{"x", "y"}, {"y", "x"}} {
		c := begin(t, 0, cfg, nil)
		c.fetch("x", 0, 1, 1, api.OK)
		c.fetch("y", 0, 1, 2, api.OK)
		first, second := 1, 2
		if order[0] == "y" {
			first, second = 2, 1
			// The second fetch has the one stream.
			c.cancel(1, api.OK)
			c.x.Out(1000)
			c.hears(api.MuxFrame{Kind: api.MuxReset, Stream: 1})
			c.stands(2, asking, 0, 1, 3)
			c.again(1, api.OK)
		}
		id := uint64(2*first - 1)
		c.stands(first, asking, 0, 1, id)
		c.stands(second, asking, 0, c.view(second).Asked, 0)
		asked := c.view(second).Asked
		c.x.Out(1000)
		// The answer fails when its end has come, and the half that has not gone out is given up: so the stream is over.
		c.hears(data(id, "?"), ends(id))
		c.stands(first, failed, 0, 1, 0)
		if first == 1 {
			c.stands(second, asking, 0, asked+1, id+2)
		} else {
			c.stands(second, asking, 0, asked, 0)
			c.x.Out(0)
			c.stands(second, asking, 0, asked+1, id+2)
		}
	}
}

// P23.10: a stream that can't be opened now is opened when it can be.
func TestNoStreamFree(t *testing.T) {
	cfg := wide()
	cfg.Mux.Peer.Streams = 2
	p := facing(t, cfg, nil)
	for i, name := range []string{"a", "b", "c", "d"} {
		p.fetch(name, 0, 1, i+1, api.OK)
	}
	p.stands(2, asking, 0, 1, 3)
	p.stands(3, asking, 0, 0, 0)
	p.stands(4, asking, 0, 0, 0)
	p.asked(1, requestM("a"))
	p.asked(3, requestM("b"))
	p.quiet()
	p.answers(3, "N")
	p.stands(3, asking, 0, 1, 5)
	p.stands(4, asking, 0, 0, 0)
	p.asked(5, requestM("c"))
	x := fileOf("a", "abcd", 1)
	p.answers(1, x.answer())
	// The fetch goes on in the same work, and its turn is ahead.
	p.stands(1, getting, 0, 2, 7)
	p.stands(4, asking, 0, 0, 0)
	p.asked(7, x.ask(0, 2))
	p.cancel(3, api.OK)
	p.stands(4, asking, 0, 0, 0)
	p.pass()
	p.m.Reset(5, 1)
	p.pass()
	p.stands(4, asking, 0, 1, 9)
}

// P23.10: when the peer takes no more streams a fetch fails that wants one; what is under way goes on.
func TestAway(t *testing.T) {
	x := fileOf("x", "abcd", 1)
	p := facing(t, wide(), logOf(t, kind(1, recordM(fileOf("known", "ab", 1)))))
	p.fetch("x", 0, 1, 1, api.OK)
	p.asked(1, requestM("x"))
	p.answers(1, x.answer())
	p.asked(3, x.ask(0, 2))
	p.fetch("y", 0, 1, 2, api.OK)
	p.asked(5, requestM("y"))
	p.m.Away(0)
	p.pass()
	p.stands(1, getting, 0, 2, 3)
	p.stands(2, asking, 0, 1, 5)
	p.answers(3, x.parts(0, 1))
	p.stands(1, failed, 2, 2, 0)
	p.again(1, api.OK)
	p.stands(1, failed, 2, 2, 0)
	p.answers(5, fileOf("y", "", 1).answer())
	p.stands(2, done, 0, 1, 0)
	p.fetch("known", 0, 1, 3, api.OK)
	p.stands(3, failed, 0, 0, 0)
	p.fetch("z", 0, 1, 4, api.OK)
	p.stands(4, failed, 0, 0, 0)
	p.again(4, api.OK)
	p.stands(4, failed, 0, 0, 0)
	p.cancel(4, stateErr)
	p.quiet()
	// The other way nothing is barred.
	p.offer("q", "abc", 1, api.OK)
	p.told(p.ask(requestM("q")), fileOf("q", "abc", 1).answer())
}

// P23.10: a fetch that waits for a stream fails as soon as the peer takes no more.
func TestAwayWhileWaiting(t *testing.T) {
	cfg := wide()
	cfg.Mux.Peer.Streams = 1
	c := begin(t, 0, cfg, nil)
	c.fetch("x", 0, 1, 1, api.OK)
	c.fetch("y", 0, 1, 2, api.OK)
	c.stands(2, asking, 0, 0, 0)
	c.x.Out(1000)
	c.hears(away())
	c.stands(1, asking, 0, 1, 1)
	c.stands(2, failed, 0, 0, 0)
}

// P23.8: so many bytes are read of a request at once, which shows by what the peer is told of its room.
func TestRequestReads(t *testing.T) {
	for each, want := range map[uint64][]api.MuxFrame{
		// Half the room is used by the first Read, whose 804 bytes are too many already.
		1608: {room(2, 804+1608), resets(2), stops(2)},
		1606: {room(2, 804+1606), resets(2), stops(2)},
		// The rest is used when the stream is given up, of which the peer is not told.
		1610: {resets(2), stops(2)},
	} {
		c := begin(t, 0, config(rooms(1<<30, each, 9), 1024, 2), nil)
		c.hears(opens(2), data(2, strings.Repeat("M", 1000)))
		c.goes(want...)
	}
	// With 803 it goes on to be read.
	c := begin(t, 0, config(rooms(1<<30, 1606, 9), 1024, 2), nil)
	c.hears(opens(2), data(2, strings.Repeat("M", 803)))
	c.goes(room(2, 803+1606))
	c.serves(1)
	c.hears(data(2, "M"))
	c.goes(resets(2), stops(2))
}

// P23.10: so many bytes are read of an answer at once, and they are gone through as they come.
func TestAnswerReads(t *testing.T) {
	x := fileOf("x", letters(2*65536), 65536)
	begins := func() check {
		c := begin(t, 0, config(rooms(1<<30, 2*65536, 9), 1024, 2), logOf(t, kind(1, recordM(x))))
		c.fetch("x", 0, 1, 1, api.OK)
		c.x.Out(1000)
		return c
	}
	// feed lets all come in one Feed.
	feed := func(c check, s string) {
		var l []api.MuxFrame
		for len(s) > 0 {
			n := min(len(s), api.MaxMuxPiece)
			l = append(l, data(1, s[:n]))
			s = s[n:]
		}
		c.hears(l...)
	}
	c := begins()
	feed(c, x.parts(0)+"\x00\x00")
	c.stands(1, getting, 1, 1, 1)
	c.goes(room(1, 3*65536))
	c = begins()
	// The second Read has what is wrong: behind the first one the peer was told of its room.
	feed(c, x.parts(0)+"\x00\x00\x00\x02\x00"+strings.Repeat("a", 60000))
	c.stands(1, failed, 1, 1, 0)
	c.goes(room(1, 3*65536), stops(1))
	c = begins()
	feed(c, "?"+strings.Repeat("a", 131071))
	c.stands(1, failed, 0, 1, 0)
	c.goes(room(1, 3*65536), stops(1))
}

// P23.3 to P23.6: which calls work. There is always something to be done: a part of an answer is to go out.
func TestWhoWorks(t *testing.T) {
	x := fileOf("x", letters(3000), 1000)
	for what, call := range map[string]struct {
		call  func(p peer)
		works bool
	}{
		"Fetch":            {func(p peer) { p.fetch("z", 0, 1, 3, api.OK) }, true},
		"Cancel":           {func(p peer) { p.cancel(1, api.OK) }, true},
		"Again":            {func(p peer) { p.again(2, api.OK) }, true},
		"Feed":             {func(p peer) { p.x.Feed(nil) }, true},
		"Out(0)":           {func(p peer) { p.x.Out(0) }, true},
		"Out(-1)":          {func(p peer) { p.x.Out(-1) }, true},
		"a wrong Fetch":    {func(p peer) { p.fetch("a", 0, 1, 0, sameErr) }, false},
		"a wrong Cancel":   {func(p peer) { p.cancel(2, stateErr) }, false},
		"a wrong Again":    {func(p peer) { p.again(1, stateErr) }, false},
		"Offer":            {func(p peer) { p.offer("y", "abc", 1, api.OK) }, false},
		"Withdraw":         {func(p peer) { p.withdraw("x", api.OK) }, false},
		"Data":             {func(p peer) { p.x.Data(1) }, false},
		"Sync":             {func(p peer) { p.x.Sync() }, false},
		"Stat":             {func(p peer) { p.x.Stat() }, false},
		"a Feed of broken": {func(p peer) { p.breaks() }, false},
	} {
		c := wide()
		c.Mux.Hold = api.MinHold
		p := offering(t, c, x)
		p.fetch("a", 0, 1, 1, api.OK)
		p.fetch("b", 0, 1, 2, api.OK)
		p.cancel(2, api.OK)
		p.m.Write(p.open(), []byte(x.ask(0, 3)))
		p.m.Close(2)
		p.x.Feed(p.m.Out(1000))
		// All that is accepted goes out, and Hold is free.
		p.x.Out(1 << 20)
		waits := func() int {
			for _, v := range p.x.Stat().Mux.Streams {
				if v.Stream == 2 {
					return v.Waiting
				}
			}
			return -1
		}
		if n := waits(); n != 0 {
			t.Fatalf("%d bytes wait", n)
		}
		call.call(p)
		if got := waits() > 0; got != call.works {
			t.Errorf("%s: works %v", what, got)
		}
	}
}

// P23.6: what Out works goes out by it, if there is room.
func TestOutWorksFirst(t *testing.T) {
	x := fileOf("x", letters(3000), 1000)
	c := wide()
	c.Mux.Hold = api.MinHold
	p := offering(t, c, x)
	id := p.open()
	p.answers(id, x.ask(0, 3))
	p.told(id, x.parts(0, 1, 2))
	id = p.open()
	p.m.Write(id, []byte(x.ask(0, 3)))
	p.m.Close(id)
	p.x.Feed(p.m.Out(1000))
	sent := 0
	for range 4 {
		n := 0
		for _, f := range frames(t, p.x.Out(math.MaxInt)) {
			n += len(f.Data)
		}
		sent += n
		if n != min(api.MinHold, len(x.parts(0, 1, 2))-sent+n) {
			t.Errorf("%d bytes go out", n)
		}
	}
	for _, most := range []int{0, -1, -1 << 63} {
		if b := p.x.Out(most); len(b) > 0 {
			t.Errorf("%x", b)
		}
	}
}

// P23.7: streams that come and go while others are under way, both ways.
func TestBothWays(t *testing.T) {
	x, y := fileOf("x", letters(100), 30), fileOf("y", letters(70), 7)
	p := offering(t, wide(), x)
	p.fetch("y", 0, 1, 1, api.OK)
	p.asked(1, requestM("y"))
	a := p.open()
	p.write(a, x.ask(0, 4)[:20])
	p.write(1, y.answer()[:20])
	p.serves(1)
	p.stands(1, asking, 0, 1, 1)
	p.answers(a, x.ask(0, 4)[20:])
	p.told(a, x.parts(0, 1, 2, 3))
	p.answers(1, y.answer()[20:])
	p.asked(3, y.ask(0, 2))
	if l := p.x.Stat(); l.Serving != 0 || len(l.Mux.Streams) != 1 || l.Mux.Streams[0].Stream != 3 {
		t.Errorf("%+v", l)
	}
}
