package gobackn_test

import (
	"math"
	"testing"

	"braid/api"
)

// P12.7, P12.4: the timer, one below, at and above its time; it stands for all, from the first that went out on.
func TestTimer(t *testing.T) {
	for _, ms := range []int{999, 1000, 1001, 1999} {
		e := end(t, 0)
		ticks(t, e, 300)
		writes(t, e, "abcd", 4)
		e.Tick(500)
		writes(t, e, "ef", 2) // the mark stays
		e.Out()
		e.Tick(ms - 500)
		if ms < 1000 {
			sends(t, e)
			path(t, e, 0, 2, 1000)
			continue
		}
		sends(t, e, data(0, 0, "abcd"), data(1, 4, "ef"))
		path(t, e, 1, 2, 2000)
	}
}

// P12.6: the mark is the clock, when an ACK or a DACK takes away what was under way; and then alone.
func TestMark(t *testing.T) {
	chunks := row(0, 0, fifty[:20], 4)
	for _, x := range []struct {
		what  string
		f     api.Frame
		moved bool
		left  int
	}{
		{"an ACK of some", ack(2), true, 2},
		{"a DACK of some", dack(8, 40), true, 2},
		{"a DACK of a part", dack(3, 40), false, 0},
		{"an edge", dack(0, 99), false, 0},
		{"an ACK that is not heard", ack(6), false, 0},
		{"a DACK that is not heard", dack(21, 99), false, 0},
		{"a PROBE", probe(0), false, 0},
		{"DATA", data(0, 1000, "x"), false, 0},
	} {
		t.Run(x.what, func(t *testing.T) {
			e := sender(t)
			e.Tick(600)
			hear(t, e, x.f)
			e.Out()
			if !x.moved {
				ticks(t, e, 399)
				ticks(t, e, 1, chunks...)
				return
			}
			ticks(t, e, 400)
			ticks(t, e, 599)
			ticks(t, e, 1, chunks[x.left:]...)
		})
	}
}

// P12.4: behind an ACK of all, the mark is when the next one goes out.
func TestMarkAnew(t *testing.T) {
	e := sender(t)
	e.Tick(600)
	hear(t, e, dack(20, 40))
	e.Tick(5000)
	writes(t, e, "y", 1)
	e.Out()
	ticks(t, e, 999)
	ticks(t, e, 1, data(5, 20, "y"))
}

// P12.7: the time is doubled with each strike, up to MaxRto.
func TestDoublings(t *testing.T) {
	e := end(t, 0, retries(16))
	writes(t, e, "abcd", 4)
	e.Out()
	times := []int{1000, 2000, 4000, 8000, 16000, 32000, 60000, 60000, 60000, 60000, 60000, 60000, 60000, 60000, 60000, 60000}
	underWay := 1
	for i, ms := range times {
		path(t, e, i, underWay, uint64(ms))
		ticks(t, e, ms-1)
		want := firing(i, data(0, 0, "abcd"))
		ticks(t, e, 1, want...)
		underWay = len(want)
	}
	path(t, e, 16, 2, 60000)
	ticks(t, e, 59999)
	ticks(t, e, 1, probe(0)) // dead
	path(t, e, 17, 1, 60000)
	answers(t, e, dack(0, 40), data(0, 0, "abcd"))
	path(t, e, 0, 1, 1000)
	ticks(t, e, 999)
	ticks(t, e, 1, data(0, 0, "abcd"))
}

// firing is what goes out with the strike behind i others, if the chunk went out with the last one: the time that a stream waits ahead of a PROBE is doubled just then, but it is Quiet at most.
func firing(i int, chunk api.Frame) []api.Frame {
	if i < 4 {
		return []api.Frame{chunk}
	}
	return []api.Frame{probe(0), chunk}
}

// P12.7, E13: a tick of any length fires the timer once; one of no time, or below 0, is one too.
func TestLongTick(t *testing.T) {
	for _, x := range []struct {
		ms    int
		clock uint64
	}{
		{60000, 60000}, {1<<30 - 1, 1<<30 - 1}, {1 << 30, 1 << 30}, {1<<30 + 1, 1 << 30}, {math.MaxInt, 1 << 30},
	} {
		e := end(t, 0)
		writes(t, e, "abcd", 4)
		e.Out()
		for _, ms := range []int{0, -1, math.MinInt} {
			ticks(t, e, ms)
		}
		// Last is longer ago than the time, doubled: so a PROBE goes out too.
		ticks(t, e, x.ms, probe(0), data(0, 0, "abcd"))
		path(t, e, 1, 2, 2000)
		for _, ms := range []int{0, -1, math.MinInt} {
			ticks(t, e, ms)
		}
		if s := e.Stat(); s.Clock != x.clock {
			t.Errorf("%d ms: %d", x.ms, s.Clock)
		}
		path(t, e, 1, 2, 2000)
	}
}

// P12.7, E11: one strike ahead of death, dead, one ahead of gone, gone.
func TestDeath(t *testing.T) {
	for n := 1; n <= 16; n++ {
		e := end(t, 1, retries(n))
		writes(t, e, "abcd", 4)
		e.Out()
		for strike := 1; strike <= 2*n+1; strike++ {
			e.Tick(60000)
			why, rto := api.OK, min(uint64(1000)<<strike, 60000)
			switch {
			case strike > 2*n:
				why = api.ErrDead
				sends(t, e, probe(0), rst(7))
				path(t, e, strike, 1, rto)
			case strike > n:
				sends(t, e, probe(0))
				path(t, e, strike, 1, rto)
			default:
				sends(t, e, probe(0), data(0, 1000, "abcd"))
				path(t, e, strike, 2, rto)
			}
			if s := e.Stat(); s.Err != why {
				t.Errorf("retries %d, strike %d: %+v", n, strike, s)
			}
		}
		broken(t, e, api.ErrDead)
	}
}

// E11: a frame that comes one strike ahead of gone keeps the side alive.
func TestSavedAtLast(t *testing.T) {
	for n := 1; n <= 16; n++ {
		e := end(t, 0, retries(n))
		writes(t, e, "abcd", 4)
		for range 2 * n {
			e.Tick(60000)
		}
		e.Out()
		path(t, e, 2*n, 1, min(uint64(1000)<<(2*n), 60000))
		answers(t, e, dack(0, 40), data(0, 0, "abcd"))
		path(t, e, 0, 1, 1000)
		for range 2 * n {
			e.Tick(60000)
		}
		if s := e.Stat(); s.Err != api.OK {
			t.Errorf("retries %d: %v", n, s.Err)
		}
		e.Tick(60000)
		if s := e.Stat(); s.Err != api.ErrDead {
			t.Errorf("retries %d: %v", n, s.Err)
		}
	}
}

// E11: ticks alone bring a side that is not done to ErrDead, whatever it has to send, and however short they are.
func TestTicksAlone(t *testing.T) {
	for _, ms := range []int{1, 7, 999, 1000, 10000, 60000, 1 << 30} {
		for what := range 4 {
			e := end(t, 0, retries(2))
			if what&1 != 0 {
				writes(t, e, fifty, 50)
			}
			if what&2 != 0 {
				e.Close()
			}
			n := 0
			for e.Stat().Err == api.OK && n < 200000 {
				e.Tick(ms)
				e.Out()
				n++
			}
			if s := e.Stat(); s.Err != api.ErrDead {
				t.Errorf("ticks of %d ms: %+v", ms, s)
			}
		}
	}
}

// P12.7: Quiet one below and at; a PROBE under way is not sent again until the timer fires.
func TestQuiet(t *testing.T) {
	e := end(t, 0, retries(3))
	ticks(t, e, 9999)
	ticks(t, e, 0)
	path(t, e, 0, 0, 1000)
	ticks(t, e, 1, probe(0))
	path(t, e, 0, 1, 1000)
	ticks(t, e, 999)
	ticks(t, e, 0)
	path(t, e, 0, 1, 1000)
	answers(t, e, probe(7), dack(1000, 1040)) // whatever is heard, the PROBE is under way no more
	path(t, e, 0, 0, 1000)
	ticks(t, e, 9000)
	ticks(t, e, 1, probe(0))
	path(t, e, 0, 1, 1000)
	ticks(t, e, 1000)
	path(t, e, 1, 0, 2000)
	ticks(t, e, 8999)
	ticks(t, e, 1, probe(0))
	ticks(t, e, 1999)
	path(t, e, 1, 1, 2000)
	ticks(t, e, 1)
	path(t, e, 2, 0, 4000)
}

// P12.7: while this side's stream waits, the while is the time.
func TestWhile(t *testing.T) {
	// All that went out is acknowledged, but v is not told: the peer's DACK was lost.
	e := sender(t)
	answers(t, e, ack(5))
	ticks(t, e, 999)
	ticks(t, e, 1, probe(0))
	ticks(t, e, 1000)
	path(t, e, 1, 0, 2000)
	ticks(t, e, 999)
	ticks(t, e, 1, probe(0))
	answers(t, e, dack(19, 40)) // one byte is still waited for
	path(t, e, 0, 0, 1000)
	ticks(t, e, 999)
	ticks(t, e, 1, probe(0))
	answers(t, e, dack(20, 40))
	ticks(t, e, 9999)
	ticks(t, e, 1, probe(0))
	hear(t, e, dack(20, 40))
	e.Close()
	sends(t, e, fin(5, 20))
	answers(t, e, ack(6)) // the end waits too
	ticks(t, e, 999)
	ticks(t, e, 1, probe(0))
	answers(t, e, dack(21, 40))
	ticks(t, e, 9999)
	ticks(t, e, 1, probe(0))
}

// P12.7: the stream waits too, when nothing of it may go out.
func TestWhileBarred(t *testing.T) {
	e := end(t, 0, func(c *api.Config) { c.RecvBuf = 4 })
	writes(t, e, "abcdefgh", 8)
	sends(t, e, data(0, 0, "abcd"))
	ticks(t, e, 10)
	answers(t, e, dack(4, 4)) // the edge bars the second chunk
	ticks(t, e, 989)
	ticks(t, e, 1, probe(0))
	path(t, e, 0, 1, 1000)
	answers(t, e, dack(4, 8), data(1, 4, "efgh"))
	path(t, e, 0, 1, 1000)
}

// P12.7, P12.4: a PROBE and chunks may be under way together; the timer runs since the PROBE, and fires for both.
func TestProbeBesideChunks(t *testing.T) {
	e := end(t, 0, retries(4))
	ticks(t, e, 10000, probe(0))
	ticks(t, e, 400)
	writes(t, e, "abcd", 4)
	sends(t, e, data(0, 0, "abcd"))
	path(t, e, 0, 2, 1000)
	ticks(t, e, 599)
	ticks(t, e, 1, data(0, 0, "abcd"))
	path(t, e, 1, 1, 2000)
	ticks(t, e, 4000, probe(0), data(0, 0, "abcd"))
	path(t, e, 2, 2, 4000)
	ticks(t, e, 100)
	answers(t, e, dack(0, 40)) // the PROBE is under way no more; the mark stays
	path(t, e, 0, 1, 1000)
	ticks(t, e, 899)
	ticks(t, e, 1, data(0, 0, "abcd"))
}

// P12.10: eight chunks and a PROBE, and no more.
func TestMostUnderWay(t *testing.T) {
	e := end(t, 0, mss(1))
	writes(t, e, fifty[:20], 20)
	e.Out()
	chunks := row(0, 0, fifty[:20], 1)
	ticks(t, e, 5000, append([]api.Frame{probe(0)}, chunks[:8]...)...)
	path(t, e, 1, 9, 2000)
	answers(t, e, probe(0), dack(1000, 1040))
	path(t, e, 0, 8, 1000)
	answers(t, e, ack(8), chunks[8:16]...)
}

// E10: a done side answers frames as ever, and its timers stand still; its clock goes on.
func TestDone(t *testing.T) {
	e := end(t, 0)
	writes(t, e, "abcd", 4)
	e.Close()
	e.Out()
	answers(t, e, data(0, 1000, "xy"), ack(1), dack(1002, 1040))
	answers(t, e, dack(5, 40))
	if e.Stat().Done {
		t.Error("done ahead of the peer's end")
	}
	answers(t, e, fin(1, 1002), ack(2), dack(1003, 1040))
	if !e.Stat().Done {
		t.Error("not done")
	}
	for _, ms := range []int{10000, 60000, 1 << 30, 60000, 60000, 60000} {
		ticks(t, e, ms)
	}
	if s := e.Stat(); !s.Done || s.Err != api.OK || s.Clock != 250000+1<<30 {
		t.Errorf("%+v", s)
	}
	path(t, e, 0, 0, 1000)
	answers(t, e, fin(1, 1002), ack(2), dack(1003, 1040))
	answers(t, e, data(0, 1000, "xy"), ack(2), dack(1003, 1040))
	answers(t, e, probe(4), ack(2), dack(1003, 1040))
	reads(t, e, 9, "xy", false)
	sends(t, e, dack(1003, 1042))
	reads(t, e, 9, "", true)
	if n, bad := e.Write([]byte("x")); n != 0 || bad != api.ErrClosed {
		t.Error(n, bad)
	}
	if bad := e.Abort(); bad != api.OK {
		t.Error(bad)
	}
	sends(t, e, rst(9))
	broken(t, e, api.ErrAborted)
}

// E9, E10: a done side hears an RST.
func TestResetOfDone(t *testing.T) {
	e := end(t, 1)
	e.Close()
	hear(t, e, dack(1001, 0))
	hear(t, e, fin(0, 0))
	if !e.Stat().Done {
		t.Error("not done")
	}
	e.Out()
	answers(t, e, rst(9))
	broken(t, e, api.ErrReset)
}
