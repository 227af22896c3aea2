package mux_test

import (
	"slices"
	"strings"
	"testing"

	"braid/api"
)

// P20.11: OPEN of numbers that are not the peer's, not the next one, and of one more than this side takes.
func TestHearOpen(t *testing.T) {
	for _, x := range []struct {
		id   uint64
		rule api.Errno
	}{{1, api.ErrCreditId}, {3, api.ErrCreditId}, {5, api.ErrCreditId}, {2, api.ErrCreditId}, {6, api.ErrCreditId}, {top, api.ErrCreditId}, {top - 1, api.ErrCreditId}} {
		c := begin(t, 0, small())
		c.open(0, 1, 1, api.OK)
		c.hears(opens(2, 7, 255))
		c.breaks(x.rule, opens(x.id, 0, 1))
		c.stat(api.MuxStat{Broken: x.rule, Opened: 1, Heard: 2})
		c.there(1, 2)
	}
	c := begin(t, 0, small())
	c.hears(opens(2, 7, 255), opens(4, 0, 1))
	c.views(api.MuxView{Stream: 2, Class: 7, Share: 255}, api.MuxView{Stream: 4, Share: 1})
	c.breaks(api.ErrCreditMany, opens(6, 0, 1))
	c = begin(t, 0, small())
	c.hears(opens(2, 0, 1), opens(4, 0, 1))
	c.breaks(api.ErrCreditId, opens(8, 0, 1)) // neither the next one nor free: the book's first error
	c = begin(t, 1, small())
	c.breaks(api.ErrCreditId, opens(2, 0, 1)) // its own next one
	c = begin(t, 1, small())
	c.breaks(api.ErrCreditId, opens(3, 0, 1))
}

// inState is a side 0 with stream 1 whose getting half is open, ended, given up or forgotten.
func inState(t *testing.T, getting string) check {
	c := begin(t, 0, small())
	c.open(0, 1, 1, api.OK)
	switch getting {
	case "ended":
		c.hears(end(1))
	case "given up":
		c.hears(reset(1, 1))
	case "forgotten":
		c.hears(end(1))
		c.close(1, api.OK)
		c.ends(1, 1)
		c.there()
	case "over":
		c.hears(end(1))
		c.close(1, api.OK)
		c.there(1)
	}
	c.skip()
	return c
}

// P20.11: BYTES, END and RESET of a stream that never was, and of one whose getting half is not open.
func TestHearBehindTheEnd(t *testing.T) {
	for _, f := range []api.MuxFrame{data(1, "a"), end(1), reset(1, 2)} {
		for _, getting := range []string{"ended", "given up", "over", "forgotten"} {
			inState(t, getting).breaks(shutErr, f)
		}
		for _, id := range []uint64{2, 3, 4, top} {
			f.Stream = id
			inState(t, "open").breaks(streamErr, f)
		}
	}
	c := inState(t, "open")
	c.hears(data(1, "a"))
	c.holds(1, 0, 1)
	c.halves(1, api.HalfOpen, api.HalfOpen)
	c.hears(end(1))
	c.halves(1, api.HalfOpen, api.HalfEnded)
	c.holds(1, 0, 1)
	c = inState(t, "open")
	c.hears(data(1, "a"), reset(1, 2))
	c.halves(1, api.HalfOpen, api.HalfReset)
	c.holds(1, 0, 0)
	c.code(1, 2)
	c.unread(1, resetErr)
}

// P20.11: BYTES up to the rooms and beyond them, of the stream and of all together.
func TestHearBytes(t *testing.T) {
	c := begin(t, 0, config(10, 6, 3, 12, 4))
	c.hears(opens(2, 0, 1), opens(4, 0, 1), data(2, "abcdef"), data(4, "ghi"))
	c.holds(2, 0, 6)
	c.holds(4, 0, 3)
	c.breaks(api.ErrCreditOver, data(4, "jk"))
	c.holds(4, 0, 3)
	c = begin(t, 0, config(10, 6, 3, 12, 4))
	c.hears(opens(2, 0, 1))
	c.breaks(api.ErrCreditOver, data(2, "abcdefg"))
	c.holds(2, 0, 0)
	c = begin(t, 0, config(10, 6, 3, 12, 4))
	c.hears(opens(2, 0, 1), data(2, "abcdef"))
	c.breaks(api.ErrCreditOver, data(2, "g"))
	c = begin(t, 0, config(10, 6, 3, 12, 4))
	c.hears(opens(2, 0, 1))
	c.stop(2, 1, api.OK)
	c.hears(data(2, "abcdef"))
	c.breaks(api.ErrCreditOver, data(2, "g")) // a deaf stream's limit stands still
	c = begin(t, 0, wide())
	c.hears(opens(2, 0, 1), data(2, strings.Repeat("m", api.MaxMuxPiece)))
	c.holds(2, 0, api.MaxMuxPiece)
}

// P20.11: RESET drops what was not read, which counts as used.
func TestHearReset(t *testing.T) {
	c := begin(t, 0, config(8, 8, 3, 12, 4))
	c.hears(opens(2, 0, 1), data(2, "abcdef"))
	c.read(2, 1, "a")
	c.hears(reset(2, 9))
	c.out(room(0, 14))
	c.views(api.MuxView{Stream: 2, Share: 1, Getting: api.HalfReset, Code: 9})
	c.write(2, "x", 1, api.OK) // the other half goes on
	c.close(2, api.OK)
	c.out(data(2, "x"), end(2))
	c.hears(opens(4, 0, 1), data(4, "ab"), reset(4, 0)) // less than half of the room: nothing is told
	c.out()
}

// P20.11: STOP of a sending half that is open, shut, ended and given up, of a stream that is forgotten, and of one that never was.
func TestHearStop(t *testing.T) {
	for _, x := range []struct {
		name  string
		bring func(c check)
		half  int
		error api.Errno
		out   []api.MuxFrame
	}{
		{"open", func(c check) {}, api.HalfReset, stopErr, []api.MuxFrame{reset(1, 5)}},
		{"open, and bytes wait", func(c check) { c.fill(1, 9) }, api.HalfReset, stopErr, []api.MuxFrame{reset(1, 5)}},
		{"shut", func(c check) { c.fill(1, 9); c.close(1, api.OK) }, api.HalfReset, stopErr, []api.MuxFrame{reset(1, 5)}},
		{"ended", func(c check) { c.close(1, api.OK) }, api.HalfEnded, shutErr, []api.MuxFrame{end(1)}},
		{"given up", func(c check) { c.reset(1, 3, api.OK) }, api.HalfReset, shutErr, []api.MuxFrame{reset(1, 3)}},
		{"unwanted", func(c check) { c.hears(stop(1, 5)) }, api.HalfReset, stopErr, []api.MuxFrame{reset(1, 5)}},
	} {
		c := inState(t, "open")
		x.bring(c)
		c.hears(stop(1, 5))
		c.halves(1, x.half, api.HalfOpen)
		c.holds(1, 0, 0)
		c.code(1, 5)
		c.write(1, "x", 0, x.error)
		c.close(1, x.error)
		c.reset(1, 1, x.error)
		c.hears(stop(1, 6))
		c.code(1, 5)
		c.out(x.out...)
		c.hears(data(1, "ok")) // the getting half goes on
		if c.read(1, 9, "ok"); t.Failed() {
			t.Fatal("STOP of a half that is", x.name)
		}
	}
	c := inState(t, "forgotten")
	c.hears(stop(1, 5))
	c.there()
	c.out()
	c = inState(t, "over")
	c.hears(stop(1, 5))
	c.out()
	c.views(api.MuxView{Stream: 1, Share: 1, Sending: api.HalfEnded, Getting: api.HalfEnded, Code: 5})
	for _, id := range []uint64{2, 3, top} {
		inState(t, "open").breaks(streamErr, stop(id, 1))
	}
}

// P20.11: ROOM of all together, of a stream that is open, is over, is forgotten, and never was; a limit that is no news.
func TestHearRoom(t *testing.T) {
	c := begin(t, 0, config(10, 8, 3, 100, 100))
	c.open(0, 1, 1, api.OK)
	c.skip()
	c.fill(1, 60)
	c.out(data(1, "xxxxxxxx"))
	c.hears(room(1, 8), room(1, 0), room(0, 10), room(0, 3))
	c.out()
	c.hears(room(1, 12))
	c.out(data(1, "xx")) // all together has 10
	c.hears(room(0, 11))
	c.out(data(1, "x"))
	c.hears(room(0, top), room(1, top))
	c.out(data(1, strings.Repeat("x", 49)))
	for _, getting := range []string{"over", "forgotten"} {
		c := inState(t, getting)
		c.hears(room(1, 1000), room(1, top), room(0, 1000))
		c.out()
	}
	for _, id := range []uint64{2, 3, top} {
		inState(t, "open").breaks(streamErr, room(id, 1))
	}
}

// P20.11, 'the turns': as soon as a room grows they know of it, at once: whose room grew first has the first turn.
func TestRoomsInOrder(t *testing.T) {
	for _, first := range []uint64{1, 3} {
		c := begin(t, 0, config(1000, 2, 3, 100, 100))
		c.open(0, 1, 1, api.OK)
		c.open(0, 1, 3, api.OK)
		c.fill(1, 9)
		c.fill(3, 9)
		c.skip()
		second := 4 - first
		c.hears(room(first, 5), room(second, 5))
		c.out(data(first, "xxx"), data(second, "xxx"))
	}
}

// 'The turns': bytes that are accepted beyond the stream's room are told when the room grows, and those within it at once.
func TestTurnsKnowWhatIsWithinRoom(t *testing.T) {
	c := begin(t, 0, config(1000, 4, 3, 100, 100))
	c.open(0, 1, 1, api.OK)
	c.open(0, 1, 3, api.OK)
	c.skip()
	c.fill(1, 10)
	c.fill(3, 2)
	c.out(data(1, "xxxx"), data(3, "xx"))
	c.fill(3, 5)
	c.fill(1, 5)
	c.out(data(3, "xx"))
	c.hears(room(1, 6))
	c.fill(1, 1)
	c.out(data(1, "xx"))
	c.hears(room(3, 100))
	c.hears(room(1, 7), room(1, 100))
	c.out(data(3, "xxx"), data(1, "xxxxxxxxxx"))
}

// P20.11: PING is answered, PONG noted, also of a stream's number that never was.
func TestHearPing(t *testing.T) {
	c := begin(t, 0, small())
	c.hears(ping(0), pong(8), ping(top), ping(3))
	c.out(pong(0), pong(top), pong(3))
	c.pongs(8)
}

// P20.11: AWAY up to the greatest own stream, and above it; it may be said again.
func TestHearAway(t *testing.T) {
	c := begin(t, 0, small())
	c.breaks(streamErr, away(1, 0))
	for id := range uint64(6) {
		c := begin(t, 0, small())
		c.open(0, 1, 1, api.OK)
		c.open(0, 1, 3, api.OK)
		c.hears(opens(2, 0, 1), opens(4, 0, 1))
		if id > 3 {
			c.breaks(streamErr, away(id, 7))
			c.stat(api.MuxStat{Broken: streamErr, Opened: 3, Heard: 4})
			continue
		}
		c.hears(away(id, 7), away(0, 8))
		c.stat(api.MuxStat{Opened: 3, Heard: 4, Gone: true})
		c.open(0, 1, 0, awayErr)
		c.write(3, "x", 1, api.OK) // streams that are there go on
	}
	c = begin(t, 0, small())
	c.hears(away(0, top))
	c.open(0, 1, 0, awayErr)
}

// P20.11: bytes that the Reader refuses, each with its number.
func TestReaderRefuses(t *testing.T) {
	for _, x := range []struct {
		bytes []byte
		rule  api.Errno
	}{
		{[]byte{0}, api.ErrMuxKind}, {[]byte{10}, api.ErrMuxKind}, {[]byte{255}, api.ErrMuxKind},
		{[]byte{7, 0x80, 0}, api.ErrMuxNumber}, {[]byte{4, 0}, api.ErrMuxField}, {[]byte{2, 1, 0}, api.ErrMuxField},
		{[]byte{1, 2, 8}, api.ErrMuxField}, {[]byte{2, 1, 0x81, 0x80, 1}, api.ErrMuxLong},
	} {
		c := begin(t, 0, small())
		c.open(0, 1, 1, api.OK)
		c.breaksBytes(x.rule, append(wire(t, pong(4)), x.bytes...))
		c.pongs(4)
		answersBroken(c)
		c.stat(api.MuxStat{Broken: x.rule, Opened: 1})
	}
}

// P20.11: of several frames those ahead of the one that breaks a rule are heard, and none behind it; the row and the ready bytes are dropped.
func TestBroken(t *testing.T) {
	c := begin(t, 0, small())
	c.open(0, 1, 1, api.OK)
	c.ping(300, api.OK)
	c.write(1, "abc", 3, api.OK)
	if b := c.m.Out(5); len(b) != 5 {
		t.Fatalf("%x", b)
	}
	c.stat(api.MuxStat{Opened: 1, Out: 2})
	c.breaks(shutErr, opens(2, 0, 1), data(1, "defg"), end(1), pong(1), end(1), pong(2), opens(4, 0, 1), stop(1, 1))
	c.stat(api.MuxStat{Broken: shutErr, Opened: 1, Heard: 2})
	c.views(api.MuxView{Stream: 1, Share: 1, Getting: api.HalfEnded, Waiting: 3, Ready: 4}, api.MuxView{Stream: 2, Share: 1})
	c.pongs(1)
	answersBroken(c)
	c.accept(2, 0)
	c.views(api.MuxView{Stream: 1, Share: 1, Getting: api.HalfEnded, Waiting: 3, Ready: 4}, api.MuxView{Stream: 2, Share: 1})
}

// P20.11: the rule that was broken first stays.
func TestBrokenStays(t *testing.T) {
	c := begin(t, 0, small())
	c.breaks(api.ErrCreditId, opens(1, 0, 1))
	if e := c.m.Feed([]byte{0}); e != brokenErr {
		t.Errorf("Feed: %d", e)
	}
	c.stat(api.MuxStat{Broken: api.ErrCreditId})
}

// P20.11: bytes cut at every place: a frame is heard as soon as all of it has come, not ahead of it.
func TestFeedCut(t *testing.T) {
	row := []api.MuxFrame{opens(2, 3, 4), data(2, "abc"), ping(300), room(0, 1<<40), opens(4, 0, 1), pong(1000), data(4, "d"), end(4), stop(2, 1<<50), reset(2, 77), away(0, 3)}
	var ends []int
	for i := range row {
		ends = append(ends, len(wire(t, row[:i+1]...)))
	}
	all := wire(t, row...)
	whole := begin(t, 0, small())
	whole.hears(row...)
	for cut := range len(all) + 1 {
		c := begin(t, 0, small())
		c.m.Feed(all[:cut])
		n, _ := slices.BinarySearch(ends, cut+1)
		part := begin(t, 0, small())
		part.hears(row[:n]...)
		if got, want := c.m.Stat(), part.m.Stat(); !sameStat(got, want) {
			t.Errorf("behind %d bytes: %+v, want %+v", cut, got, want)
		}
		c.m.Feed(nil)
		c.m.Feed(all[cut:])
		if got, want := c.m.Stat(), whole.m.Stat(); !sameStat(got, want) {
			t.Errorf("cut at %d: %+v, want %+v", cut, got, want)
		}
		c.pongs(1000)
		c.out(pong(300), reset(2, 1<<50))
	}
	c := begin(t, 0, small())
	for _, x := range all {
		if e := c.m.Feed([]byte{x}); e != api.OK {
			t.Fatal(e)
		}
	}
	if !sameStat(c.m.Stat(), whole.m.Stat()) {
		t.Error("byte by byte it is heard otherwise")
	}
}

// P20.11: a rule that is broken by a frame that came in pieces.
func TestBrokenByPieces(t *testing.T) {
	c := begin(t, 0, small())
	b := wire(t, opens(2, 0, 1), end(2), data(2, "abc"))
	for _, x := range b[:len(b)-1] {
		if e := c.m.Feed([]byte{x}); e != api.OK {
			t.Fatal(e)
		}
	}
	c.ping(1, api.OK)
	c.breaksBytes(shutErr, b[len(b)-1:])
	answersBroken(c)
}
