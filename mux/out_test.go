package mux_test

import (
	"bytes"
	"math"
	"strings"
	"testing"

	"braid/api"
)

// talk is a side with frames of many kinds in its row, and bytes of two streams.
func talk(t *testing.T) check {
	c := begin(t, 0, small())
	c.open(2, 1, 1, api.OK)
	c.open(2, 2, 3, api.OK)
	c.write(1, "abcdefghij", 10, api.OK)
	c.write(3, "klmnop", 6, api.OK)
	c.close(3, api.OK)
	c.ping(1000, api.OK)
	return c
}

// P20.13: with most below 1, of 1, and anything: always the first bytes of the same row, and Stat tells how many of the made frames are left.
func TestOutCut(t *testing.T) {
	want := wire(t, opens(1, 2, 1), opens(3, 2, 2), ping(1000), data(1, "abcd"), data(3, "klmnop"), end(3), data(1, "efgh"))
	ends := []int{4, 8, 11, 18, 27, 29, 36}
	for most := 1; most <= len(want)+1; most++ {
		c := talk(t)
		var got []byte
		for {
			for _, none := range []int{math.MinInt, -1, 0} {
				if b := c.m.Out(none); len(b) != 0 {
					t.Fatalf("Out(%d): %x", none, b)
				}
			}
			b := c.m.Out(most)
			if len(b) > most {
				t.Fatalf("Out(%d): %d bytes", most, len(b))
			}
			if len(b) == 0 {
				break
			}
			got = append(got, b...)
			left := 0
			for _, x := range ends {
				if x >= len(got) {
					left = x - len(got)
					break
				}
			}
			c.stat(api.MuxStat{Opened: 3, Out: left})
		}
		if !bytes.Equal(got, want) {
			t.Errorf("by %d: %x, want %x", most, got, want)
		}
	}
	c := talk(t)
	if got := c.m.Out(math.MaxInt); !bytes.Equal(got, want) {
		t.Errorf("all at once: %x", got)
	}
}

// P20.13: no more frames are made than are needed: what is queued behind stands in the row, ahead of BYTES that were not made.
func TestRowAheadOfBytes(t *testing.T) {
	c := begin(t, 0, small())
	c.open(0, 1, 1, api.OK)
	c.write(1, "abcdefgh", 8, api.OK)
	got := c.m.Out(4) // OPEN
	c.ping(1, api.OK)
	got = append(got, c.m.Out(3)...) // PING, and a byte of BYTES
	c.stat(api.MuxStat{Opened: 1, Out: 6})
	c.ping(2, api.OK)
	got = append(got, c.m.Out(6)...) // the rest of it
	c.holds(1, 4, 0)
	c.stop(1, 3, api.OK)
	got = append(got, c.m.Out(100)...) // PING, STOP, BYTES
	want := wire(t, opens(1, 0, 1), ping(1), data(1, "abcd"), ping(2), stop(1, 3), data(1, "efgh"))
	if !bytes.Equal(got, want) {
		t.Errorf("%x, want %x", got, want)
	}
}

// P20.13: BYTES are no longer than MaxMuxPiece.
func TestLongBytes(t *testing.T) {
	k := wide()
	k.Quantum = api.MaxQuantum
	c := begin(t, 0, k)
	c.open(0, 2, 1, api.OK)
	c.skip()
	c.fill(1, 3*api.MaxMuxPiece-1)
	piece := strings.Repeat("x", api.MaxMuxPiece)
	c.out(data(1, piece), data(1, piece), data(1, piece[1:]))
}

// P20.13: than the stream's room, than that of all together, and than a turn.
func TestBytesWithinRooms(t *testing.T) {
	c := begin(t, 0, config(7, 5, 3, 20, 4))
	c.open(0, 1, 1, api.OK)
	c.open(0, 1, 3, api.OK)
	c.skip()
	c.fill(1, 20)
	c.fill(3, 20)
	c.out(data(1, "xxxx"), data(3, "xxx")) // a turn; all together
	c.hears(room(1, 30), room(3, 30))
	c.out()
	c.hears(room(0, 8))
	c.out(data(3, "x")) // the rest of its turn
	c.hears(room(0, 10))
	c.out(data(1, "xx"))
	c.hears(room(0, 100))
	c.out(data(1, "xx"), data(3, "xxxx"), data(1, "xxxx"), data(3, "xxxx"), data(1, "xxxx"), data(3, "xxxx"), data(1, "xxxx"), data(3, "xxxx"))
}

// P20.13: whose turn it is say class and share.
func TestClassesAndShares(t *testing.T) {
	c := begin(t, 0, config(1000, 100, 9, 100, 3))
	c.open(1, 1, 1, api.OK)
	c.open(1, 2, 3, api.OK)
	c.open(0, 1, 5, api.OK)
	c.skip()
	c.fill(1, 7)
	c.fill(3, 7)
	c.fill(5, 4)
	c.out(data(5, "xxx"), data(5, "x"), data(1, "xxx"), data(3, "xxxxxx"), data(1, "xxx"), data(3, "x"), data(1, "x"))
	c.hears(opens(2, 0, 2))
	c.fill(1, 1)
	c.fill(2, 7)
	c.out(data(2, "xxxxxx"), data(2, "x"), data(1, "x")) // the peer's streams too, as it opened them
}

// P20.13: an end stands right behind the last byte, ahead of the others' bytes.
func TestEndBehindTheLastByte(t *testing.T) {
	c := begin(t, 0, config(1000, 100, 9, 100, 3))
	c.open(1, 1, 1, api.OK)
	c.open(1, 1, 3, api.OK)
	c.skip()
	c.fill(1, 6)
	c.fill(3, 5)
	c.close(1, api.OK)
	c.close(3, api.OK)
	c.out(data(1, "xxx"), data(3, "xxx"), data(1, "xxx"), end(1), data(3, "xx"), end(3))
	c.halves(1, api.HalfEnded, api.HalfOpen)
	c.halves(3, api.HalfEnded, api.HalfOpen)
}

// P20.14: a stream, looked at behind each step of its life.
func TestStat(t *testing.T) {
	c := begin(t, 1, small())
	c.stat(api.MuxStat{})
	c.open(4, 5, 2, api.OK)
	v := api.MuxView{Stream: 2, Class: 4, Share: 5}
	c.views(v)
	c.write(2, "abcdefghi", 9, api.OK)
	v.Waiting = 9
	c.views(v)
	c.hears(data(2, "jkl"))
	v.Ready = 3
	c.views(v)
	c.read(2, 1, "j")
	v.Ready = 2
	c.views(v)
	c.m.Out(5)
	c.stat(api.MuxStat{Opened: 2, Out: 10})
	v.Waiting = 1
	c.views(v)
	c.close(2, api.OK)
	v.Sending = api.HalfShut
	c.views(v)
	c.skip()
	c.stat(api.MuxStat{Opened: 2})
	c.hears(room(2, 9))
	c.skip()
	v.Waiting, v.Sending = 0, api.HalfEnded
	c.views(v)
	c.hears(stop(2, 31))
	v.Code = 31
	c.views(v)
	c.stop(2, 1, api.OK)
	v.Ready, v.Deaf = 0, true
	c.views(v)
	c.hears(opens(1, 1, 2), opens(3, 3, 4))
	c.views(api.MuxView{Stream: 1, Class: 1, Share: 2}, v, api.MuxView{Stream: 3, Class: 3, Share: 4})
	c.stat(api.MuxStat{Opened: 2, Heard: 3})
	c.hears(end(2), reset(3, 6))
	c.views(api.MuxView{Stream: 1, Class: 1, Share: 2}, api.MuxView{Stream: 3, Class: 3, Share: 4, Getting: api.HalfReset, Code: 6})
	c.stat(api.MuxStat{Opened: 2, Heard: 3})
}
