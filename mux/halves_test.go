package mux_test

import (
	"math"
	"testing"

	"braid/api"
)

// P20.5: with nothing that waits it ends at once; else as soon as the last byte has gone out, and no byte more is taken.
func TestClose(t *testing.T) {
	c := begin(t, 0, small())
	c.open(0, 1, 1, api.OK)
	c.open(0, 1, 3, api.OK)
	c.skip()
	c.close(1, api.OK)
	c.halves(1, api.HalfEnded, api.HalfOpen)
	c.out(end(1))
	c.fill(3, 10)
	c.close(3, api.OK)
	c.halves(3, api.HalfShut, api.HalfOpen)
	c.holds(3, 10, 0)
	c.out(data(3, "xxxx"), data(3, "xxxx"))
	c.halves(3, api.HalfShut, api.HalfOpen)
	for _, id := range []uint64{1, 3} {
		c.close(id, shutErr)
		c.write(id, "", 0, shutErr)
		c.write(id, "a", 0, shutErr)
	}
	c.hears(room(3, 9))
	c.out(data(3, "x"))
	c.hears(room(3, 10))
	c.out(data(3, "x"), end(3))
	c.halves(3, api.HalfEnded, api.HalfOpen)
	c.holds(3, 0, 0)
	c.close(3, shutErr)
	c.hears(room(3, 100))
	c.out()
}

// P20.5: Close behind bytes that have all gone out.
func TestCloseBehindOut(t *testing.T) {
	c := begin(t, 0, small())
	c.open(0, 1, 1, api.OK)
	c.fill(1, 3)
	c.out(opens(1, 0, 1), data(1, "xxx"))
	c.close(1, api.OK)
	c.halves(1, api.HalfEnded, api.HalfOpen)
	c.out(end(1))
}

// P20.6: of a half that is open, shut, ended, given up by this side, and given up because of a STOP.
func TestReset(t *testing.T) {
	c := begin(t, 0, config(20, 8, 9, 12, 4))
	for range 5 {
		c.m.Open(0, 1)
	}
	c.skip()
	c.fill(1, 12)
	c.fill(3, 2)
	c.close(3, api.OK)
	c.close(5, api.OK)
	c.hears(stop(9, 77))
	c.reset(1, 1, api.OK) // open
	c.reset(3, 2, api.OK) // shut
	c.reset(5, 3, shutErr)
	c.reset(1, 4, shutErr)
	c.reset(3, 4, shutErr)
	c.reset(9, 5, stopErr)
	for id := uint64(1); id <= 3; id += 2 {
		c.halves(id, api.HalfReset, api.HalfOpen)
		c.holds(id, 0, 0)
	}
	c.write(1, "x", 0, shutErr)
	c.close(1, shutErr)
	c.write(9, "x", 0, stopErr)
	c.close(9, stopErr)
	c.reset(7, greatest, api.OK)
	c.out(end(5), reset(9, 77), reset(1, 1), reset(3, 2), reset(7, top))
	c.code(1, 0) // own codes are not told
	c.code(9, 77)
}

// P20.6: codes up to MaxMuxNumber, and above.
func TestCodes(t *testing.T) {
	for _, x := range [][2]uint64{{0, 0}, {1, 1}, {top - 1, top - 1}, {top, top}, {top + 1, top}, {1 << 63, top}, {greatest, top}} {
		c := begin(t, 0, small())
		c.open(0, 1, 1, api.OK)
		c.skip()
		c.stop(1, x[0], api.OK)
		c.reset(1, x[0], api.OK)
		c.away(x[0], api.OK)
		c.hears(opens(2, 0, 1))
		c.out(stop(1, x[1]), reset(1, x[1]), away(0, x[1]), stop(2, x[1]), reset(2, x[1]))
	}
}

// P20.6: the turns forget it: others go on, and what was made ahead of it still goes out.
func TestResetAmongOthers(t *testing.T) {
	c := begin(t, 0, small())
	c.open(0, 1, 1, api.OK)
	c.open(0, 1, 3, api.OK)
	c.skip()
	c.write(1, "abcdefgh", 8, api.OK)
	c.write(3, "ijklmn", 6, api.OK)
	first := c.m.Out(5)
	c.stat(api.MuxStat{Opened: 3, Out: 2})
	c.reset(1, 6, api.OK)
	all := append(first, c.m.Out(1000)...)
	want := wire(t, data(1, "abcd"), reset(1, 6), data(3, "ijkl"), data(3, "mn"))
	if string(all) != string(want) {
		t.Errorf("%x, want %x", all, want)
	}
}

// P20.7: with n below 0, of 0, below, at and above what is there.
func TestRead(t *testing.T) {
	c := begin(t, 1, config(1000, 900, 2, 12, 4))
	c.hears(opens(1, 0, 1))
	for _, n := range []int{math.MinInt, -1, 0, 1, math.MaxInt} {
		c.read(1, n, "")
	}
	c.hears(data(1, "abc"), data(1, "defghij"))
	c.holds(1, 0, 10)
	for _, n := range []int{math.MinInt, -1, 0} {
		c.read(1, n, "")
	}
	c.holds(1, 0, 10)
	c.read(1, 1, "a")
	c.read(1, 4, "bcde")
	c.holds(1, 0, 5)
	c.hears(data(1, "kl"))
	c.read(1, 7, "fghijkl")
	c.read(1, 7, "")
	c.hears(data(1, "mn"))
	c.read(1, 3, "mn")
	c.hears(data(1, "op"))
	c.read(1, math.MaxInt, "op")
	c.out()
}

// P20.7: the end is told once nothing is left, whatever n is, and never beside bytes; and again as long as the stream is there.
func TestReadEnd(t *testing.T) {
	for _, n := range []int{math.MinInt, -1, 0, 1, 100} {
		c := begin(t, 1, small())
		c.hears(opens(1, 0, 1), data(1, "abc"), end(1))
		c.halves(1, api.HalfOpen, api.HalfEnded)
		c.read(1, 0, "")
		c.read(1, -1, "")
		c.read(1, 2, "ab")
		c.read(1, 0, "")
		c.read(1, 5, "c")
		c.ends(1, n)
		c.ends(1, n)
		c.ends(1, 3)
		c.holds(1, 0, 0)
	}
}

// P20.7: what is read is used in the book, and what it tells is queued, the stream's ahead of all together's.
func TestReadTellsRooms(t *testing.T) {
	c := begin(t, 1, config(8, 6, 2, 12, 4))
	c.hears(opens(1, 0, 1), opens(3, 0, 1), data(1, "abcdef"), data(3, "gh"))
	c.read(1, 2, "ab")
	c.out()
	c.read(1, 1, "c")
	c.out(room(1, 9))
	c.read(3, 1, "g")
	c.out(room(0, 12))
	c.read(3, 1, "h")
	c.read(1, 3, "def")
	c.out(room(1, 12), room(0, 16))
	c.hears(data(1, "xxxxxx"), data(3, "yy"))
	c.read(1, 100, "xxxxxx")
	c.out(room(1, 18), room(0, 22))
	c.hears(data(3, "zz"), end(3))
	c.close(3, api.OK)
	c.skip()
	c.read(3, 4, "yyzz") // it is over: nothing of its own is told any more
	c.out(room(0, 26))
	c.ends(3, 0)
}

// P20.8: with and without bytes that were not read; the ROOM stands ahead of the STOP.
func TestStop(t *testing.T) {
	c := begin(t, 1, config(8, 8, 2, 12, 4))
	c.hears(opens(1, 0, 1), opens(3, 0, 1), data(1, "abcd"))
	c.stop(3, 6, api.OK)
	c.out(stop(3, 6))
	c.stop(1, 7, api.OK)
	c.out(room(0, 12), stop(1, 7))
	c.views(api.MuxView{Stream: 1, Share: 1, Deaf: true}, api.MuxView{Stream: 3, Share: 1, Deaf: true})
	for _, id := range []uint64{1, 3} {
		c.stop(id, 8, deafErr)
		c.unread(id, deafErr)
	}
	c.hears(data(1, "efg")) // dropped, and used
	c.holds(1, 0, 0)
	c.out()
	c.hears(data(3, "h"))
	c.out(room(0, 16))
	c.write(1, "x", 1, api.OK) // the other half goes on
	c.out(data(1, "x"))
	c.hears(data(1, "i"), end(1))
	c.halves(1, api.HalfOpen, api.HalfEnded)
	c.unread(1, deafErr)
}

// P20.8: of a getting half that is ended or given up no STOP is queued.
func TestStopOfWhatIsOver(t *testing.T) {
	c := begin(t, 1, config(8, 8, 9, 12, 4))
	c.hears(opens(1, 0, 1), opens(3, 0, 1), opens(5, 0, 1), data(1, "abcd"), end(1), data(3, "efgh"), reset(3, 2), end(5))
	c.out(room(0, 12)) // of the RESET
	c.stop(1, 7, api.OK)
	c.out(room(0, 16))
	c.stop(3, 7, api.OK)
	c.stop(5, 7, api.OK)
	c.out()
	for id := uint64(1); id <= 5; id += 2 {
		c.unread(id, deafErr)
		c.stop(id, 7, deafErr)
		c.holds(id, 0, 0)
	}
	c.halves(1, api.HalfOpen, api.HalfEnded)
	c.halves(3, api.HalfOpen, api.HalfReset)
}

// P20.8: of a stream that is over, with bytes that were not read: they are used.
func TestStopOfLeft(t *testing.T) {
	c := begin(t, 1, config(8, 8, 9, 12, 4))
	c.hears(opens(1, 0, 1), data(1, "abcd"), end(1))
	c.close(1, api.OK)
	c.accept(1)
	c.skip()
	c.there(1)
	c.stop(1, 7, api.OK)
	c.out(room(0, 12))
	c.there()
	c.stop(1, 7, streamErr)
}

// P20.12: in each of the orders in which the sending half, the getting half, Accept and the telling can be done.
func TestForgotten(t *testing.T) {
	sends := map[string]func(c check){
		"ended":    func(c check) { c.close(1, api.OK) },
		"given up": func(c check) { c.reset(1, 1, api.OK) },
		"unwanted": func(c check) { c.hears(stop(1, 1)) },
	}
	gets := map[string]func(c check){
		"ended":    func(c check) { c.hears(end(1)) },
		"given up": func(c check) { c.hears(reset(1, 1)) },
	}
	tells := map[string]func(c check, getting string){
		"deaf": func(c check, _ string) { c.stop(1, 1, api.OK) },
		"told": func(c check, getting string) {
			if getting == "ended" {
				c.ends(1, 0)
			} else {
				c.unread(1, resetErr)
			}
		},
	}
	for sending, send := range sends {
		for getting, get := range gets {
			for telling, tell := range tells {
				steps := []func(c check){send, get, func(c check) { c.accept(1) }, func(c check) { tell(c, getting) }}
				for _, order := range orders() {
					if telling == "told" && at(order, 3) < at(order, 1) {
						continue // there is nothing to be told yet
					}
					c := begin(t, 1, small())
					c.hears(opens(1, 0, 1))
					for _, i := range order {
						c.there(1)
						steps[i](c)
					}
					if c.there(); t.Failed() {
						t.Fatalf("sending %s, getting %s, %s, in the order %v", sending, getting, telling, order)
					}
					for _, e := range []api.Errno{c.m.Close(1), c.m.Reset(1, 0), c.m.Stop(1, 0)} {
						if e != streamErr {
							t.Errorf("forgotten, and yet %d", e)
						}
					}
					c.unread(1, streamErr)
					c.write(1, "x", 0, streamErr)
					c.accept(0)
				}
			}
		}
	}
}

// orders is all orders of four steps.
func orders() [][]int {
	l := [][]int{{}}
	for step := range 4 {
		var longer [][]int
		for _, x := range l {
			for i := range len(x) + 1 {
				longer = append(longer, append(append(append([]int{}, x[:i]...), step), x[i:]...))
			}
		}
		l = longer
	}
	return l
}

func at(order []int, step int) int {
	for i, x := range order {
		if x == step {
			return i
		}
	}
	return -1
}

// P20.12: nothing else makes a stream forgotten: an end that came and was not told, bytes that were not read, a half that is shut.
func TestNotForgotten(t *testing.T) {
	c := begin(t, 0, small())
	c.open(0, 1, 1, api.OK)
	c.hears(data(1, "ab"), end(1))
	c.fill(1, 12)
	c.close(1, api.OK)
	c.read(1, 1, "a")
	c.skip()
	c.there(1) // shut: its room is 8
	c.hears(room(1, 20))
	c.out(data(1, "xxxx"), end(1))
	c.there(1)
	c.read(1, 0, "")
	c.read(1, 1, "b")
	c.there(1)
	c.ends(1, -1)
	c.there()

	c = begin(t, 0, small())
	c.open(0, 1, 1, api.OK)
	c.hears(data(1, "ab"), reset(1, 3))
	c.unread(1, resetErr)
	c.there(1)
	c.unread(1, resetErr)
	c.fill(1, 3)
	c.close(1, api.OK)
	c.there(1)
	c.skip()
	c.there()
}

// P20.12: the book closes a stream as soon as it is over, whether it is forgotten or not: the peer may open another one.
func TestClosedInTheBook(t *testing.T) {
	c := begin(t, 0, config(20, 8, 1, 12, 4))
	c.hears(opens(2, 0, 1), data(2, "abcde"), end(2))
	c.fill(2, 2)
	c.close(2, api.OK)
	c.out(data(2, "xx"), end(2))
	c.there(2)
	c.hears(opens(4, 0, 1)) // it would be one too many
	c.there(2, 4)
	c.read(2, 9, "abcde")
	c.out()
	c.hears(stop(4, 1), reset(4, 2))
	c.hears(opens(6, 0, 1))
	c.breaks(api.ErrCreditMany, opens(8, 0, 1))
}

// P20.14: Code is of the first RESET or STOP, be it 0.
func TestCode(t *testing.T) {
	c := begin(t, 1, config(20, 8, 9, 12, 4))
	for id := uint64(1); id <= 9; id += 2 {
		c.hears(opens(id, 0, 1))
	}
	c.hears(stop(1, 3), reset(1, 4), reset(3, 5), stop(3, 6), stop(5, 0), reset(5, 7), reset(7, 0), stop(7, 8), stop(9, 9), stop(9, 10))
	c.code(1, 3)
	c.code(3, 5)
	c.code(5, 0)
	c.code(7, 0)
	c.code(9, 9)
	c.out(reset(1, 3), reset(3, 6), reset(5, 0), reset(7, 8), reset(9, 9))
}
