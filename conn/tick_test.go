package conn_test

import (
	"math"
	"reflect"
	"testing"

	"braid/api"
	"braid/join"
)

// P13.10: the timer, one below, at and above its time; it stands for all of its path, from the first that went out on.
func TestTimer(t *testing.T) {
	for _, ms := range []int{999, 1000, 1001, 1999} {
		e := end(t, 0, wide)
		ticks(t, e, 300)
		writes(t, e, "abcd", 4)
		e.Tick(500)
		writes(t, e, "ef", 2) // the mark stays
		e.Out()
		e.Tick(ms - 500)
		if ms < 1000 {
			sends(t, e)
			under(t, e, 0, 0, 2, 1000)
			window(t, e, 0, 10240, 262144)
			continue
		}
		sends(t, e, data(2, 0, "abcd")) // the window has room for one frame
		under(t, e, 0, 1, 1, 2000)
		window(t, e, 0, 1024, 5120)
		answers(t, e, ack(2, 3), data(3, 4, "ef"))
	}
}

// P13.10: an ACK of something that was under way begins the time anew; other frames do not.
func TestMark(t *testing.T) {
	for _, x := range []struct {
		what  string
		f     api.Frame
		moved bool
	}{
		{"an ACK of the last", ack(1, 2), true},
		{"an ACK of nothing", ack(2, 9), false},
		{"a DACK of the first", dack(4, 40), false},
		{"an edge", dack(0, 9999), false},
		{"a PROBE", probe(0), false},
		{"DATA", data(0, 1000, "x"), false},
	} {
		t.Run(x.what, func(t *testing.T) {
			e := end(t, 0, wide)
			writes(t, e, "abcdefgh", 8)
			e.Tick(600)
			hear(t, e, x.f)
			e.Out()
			strikes := func(ms, n int) {
				t.Helper()
				if e.Tick(ms); e.Stat().Paths[0].Strikes != n {
					t.Errorf("%+v", e.Stat())
				}
			}
			strikes(399, 0)
			if x.moved { // the time there and back is 600, and the time 1800
				strikes(1400, 0)
			}
			strikes(1, 1)
		})
	}
}

// P13.10: each path has a timer of its own; what one has lost goes out on the other.
func TestTimersApart(t *testing.T) {
	e := joined(t, end(t, 0, wide, mss(1)), 0, 1)
	chunks := row(0, 0, fifty[:12], 1)
	writes(t, e, fifty[:10], 10)
	sends(t, e, chunks[:10]...)
	ticks(t, e, 400)
	writes(t, e, fifty[10:12], 2)
	sends(t, e, over(1, 0, chunks[10:]...)...)
	ticks(t, e, 599)
	// The first one goes out on path 0, whose window has room for one, and the others on path 1 as far as its has.
	ticks(t, e, 1, append(over(0, 10, chunks[0]), over(1, 2, chunks[1:9]...)...)...)
	under(t, e, 0, 1, 1, 2000)
	under(t, e, 1, 0, 10, 1000)
	ticks(t, e, 399)
	ticks(t, e, 1, over(1, 10, chunks[1])...)
	under(t, e, 0, 1, 1, 2000)
	under(t, e, 1, 1, 1, 2000)
	window(t, e, 0, 1024, 5120)
	window(t, e, 1, 1024, 5120)
}

// P13.10: the time is doubled with each strike, up to MaxRto; heard of, it is as it was.
func TestDoublings(t *testing.T) {
	e := end(t, 0, wide, retries(16))
	writes(t, e, "abcd", 4)
	e.Out()
	num := uint64(1)
	for i, ms := range []int{1000, 2000, 4000, 8000, 16000, 32000, 60000, 60000, 60000, 60000, 60000, 60000, 60000, 60000, 60000, 60000, 60000, 60000} {
		under(t, e, 0, i, 1, uint64(ms))
		ticks(t, e, ms-1)
		// The while is the time, doubled by then, or Quiet: beyond that a PROBE takes the window's one place.
		want := data(num, 0, "abcd")
		if min(2*ms, 10000) <= ms {
			want = probe(num)
		}
		ticks(t, e, 1, want)
		num++
	}
	under(t, e, 0, 18, 1, 60000)
	answers(t, e, nothing)
	under(t, e, 0, 0, 1, 1000)
	ticks(t, e, 999)
	ticks(t, e, 1, data(num, 0, "abcd"))
}

// P13.10, E13: a tick of any length fires each timer once; one of no time, or below 0, is one too.
func TestLongTick(t *testing.T) {
	for _, x := range []struct {
		ms    int
		clock uint64
	}{
		{60000, 60000}, {1<<30 - 1, 1<<30 - 1}, {1 << 30, 1 << 30}, {1<<30 + 1, 1 << 30}, {math.MaxInt, 1 << 30},
	} {
		e := joined(t, end(t, 0, wide, mss(1)), 0, 1)
		writes(t, e, fifty[:12], 12)
		e.Out()
		for _, ms := range []int{0, -1, math.MinInt} {
			ticks(t, e, ms)
		}
		ticks(t, e, x.ms, probe(10), on(1, probe(2)))
		under(t, e, 0, 1, 1, 2000)
		under(t, e, 1, 1, 1, 2000)
		for _, ms := range []int{0, -1, math.MinInt} {
			ticks(t, e, ms)
		}
		if s := e.Stat(); s.Clock != x.clock {
			t.Errorf("%d ms: %d", x.ms, s.Clock)
		}
		under(t, e, 0, 1, 1, 2000)
		under(t, e, 1, 1, 1, 2000)
	}
}

// P13.10, E11: one strike ahead of death, dead, one ahead of gone, gone: chunks, then probes alone, then RST.
func TestDeath(t *testing.T) {
	for n := 1; n <= 16; n++ {
		e := end(t, 0, wide, retries(n))
		writes(t, e, "abcd", 4)
		num := uint64(1)
		for strike := 1; strike <= 2*n+1; strike++ {
			e.Out()
			e.Tick(int(e.Stat().Paths[0].Rto))
			l := out(t, e)
			dead := strike > n
			isProbe := l[0].Kind == api.KindProbe
			if l[0].Num != num || dead && !isProbe || len(l) != 1+strike/(2*n+1) {
				t.Fatalf("retries %d, strike %d: %+v", n, strike, l)
			}
			num++
			under(t, e, 0, strike, 1, min(uint64(1000)<<strike, 60000))
			if s := e.Stat(); (s.Err == api.ErrDead) != (strike > 2*n) {
				t.Errorf("retries %d, strike %d: %+v", n, strike, s)
			}
		}
		broken(t, e, api.ErrDead)
	}
}

// E11, E12: a frame that comes one strike ahead of gone keeps the side alive.
func TestSavedAtLast(t *testing.T) {
	for n := 1; n <= 16; n++ {
		e := end(t, 0, wide, retries(n))
		writes(t, e, "abcd", 4)
		strike(t, e, 0, 2*n)
		hear(t, e, nothing)
		under(t, e, 0, 0, 1, 1000)
		strike(t, e, 0, 2*n)
		if s := e.Stat(); s.Err != api.OK {
			t.Errorf("retries %d: %v", n, s.Err)
		}
		strike(t, e, 0, 2*n+1)
		if s := e.Stat(); s.Err != api.ErrDead {
			t.Errorf("retries %d: %v", n, s.Err)
		}
	}
}

// E11: the side dies when all joined paths are gone: not those that are not joined, or left; RST goes out on each joined one.
func TestAllGone(t *testing.T) {
	e := joined(t, end(t, 0, wide, paths(5)), 0, 3)
	e.Leave(2)
	e.Out()
	for range 50 { // path 1 alone hears of its peer
		e.Tick(60000)
		hear(t, e, on(1, nothing))
	}
	for _, path := range []int{0, 3} {
		if n := e.Stat().Paths[path].Strikes; n < 3 {
			t.Errorf("path %d: %d strikes", path, n)
		}
	}
	if s := e.Stat(); s.Err != api.OK {
		t.Fatalf("%+v", s)
	}
	e.Out()
	for e.Stat().Err == api.OK {
		e.Out()
		e.Tick(60000)
	}
	if s := e.Stat(); s.Err != api.ErrDead || s.Paths[1].Strikes != 3 {
		t.Errorf("%+v", s)
	}
	l := out(t, e)
	if n := len(l) - 3; n < 0 || !reflect.DeepEqual(l[n:], []api.Frame{rst(9), on(1, rst(9)), on(3, rst(9))}) {
		t.Errorf("%+v", l)
	}
	broken(t, e, api.ErrDead)
}

// E11: a path whose handshake is over saves a side only when something is heard on it; one that is asked for does not.
func TestAskedIsNoHope(t *testing.T) {
	e := end(t, 0)
	strike(t, e, 0, 2)
	e.Join(1, false)
	e.Out()
	e.Tick(60000)
	if s := e.Stat(); s.Err != api.ErrDead || s.Paths[1].State != join.Asked {
		t.Errorf("%+v", s)
	}
}

// E11: ticks alone bring a side that is not done to ErrDead, whatever it has to send, and however short they are.
func TestTicksAlone(t *testing.T) {
	for _, ms := range []int{1, 7, 999, 1000, 10000, 60000, 1 << 30} {
		for what := range 8 {
			e := joined(t, end(t, 0, wide, retries(2), kind(what%5)), 0, what>>2)
			if what&1 != 0 {
				writes(t, e, fifty, 50)
			}
			if what&2 != 0 {
				e.Close()
			}
			for n := 0; e.Stat().Err == api.OK && n < 300000; n++ {
				e.Tick(ms)
				e.Out()
			}
			if s := e.Stat(); s.Err != api.ErrDead {
				t.Errorf("ticks of %d ms: %+v", ms, s)
			}
		}
	}
}

// P13.10: Quiet one below and at, since the last frame with a number that was sent on the path.
func TestQuiet(t *testing.T) {
	e := joined(t, end(t, 1, wide, retries(3)), 1, 1)
	ticks(t, e, 4000)
	writes(t, e, "abcd", 4)
	sends(t, e, data(0, 1000, "abcd"))
	hear(t, e, everything)
	answers(t, e, dack(1004, 0)) // nothing is under way, nothing waits
	ticks(t, e, 5999)
	ticks(t, e, 1, on(1, probe(0)))
	answers(t, e, on(1, everything))
	ticks(t, e, 3999)
	ticks(t, e, 1, probe(1))
	ticks(t, e, 199)
	under(t, e, 0, 0, 1, 200)
	ticks(t, e, 1)
	under(t, e, 0, 1, 0, 400)
	ticks(t, e, 5799)
	ticks(t, e, 1, on(1, probe(1)))
	answers(t, e, on(1, everything))
	e.Prio(0, false) // has no number, and counts for nothing
	hear(t, e, data(0, 0, "x"))
	reads(t, e, 9, "x", false)
	e.Out()
	ticks(t, e, 3999)
	ticks(t, e, 1, probe(2))
}

// P13.10: while this side's stream waits, the while is the path's time, or Quiet if that is less.
func TestWhile(t *testing.T) {
	e := end(t, 0, wide, retries(3))
	// quiet fails unless a PROBE goes out behind so many ms, and not one ahead of that; it is acknowledged.
	quiet := func(ms int, num uint64) {
		t.Helper()
		ticks(t, e, ms-1)
		ticks(t, e, 1, probe(num))
		answers(t, e, everything)
	}
	rto := func() int { return int(e.Stat().Paths[0].Rto) }
	writes(t, e, "abcdefgh", 8)
	e.Tick(100)
	e.Out()
	answers(t, e, everything) // but v is not told: the peer's DACK was lost
	if rto() != 300 {
		t.Error(rto())
	}
	quiet(200, 2) // 100 ms are over
	quiet(rto(), 3)
	answers(t, e, dack(7, 0)) // one byte is still waited for
	quiet(rto(), 4)
	answers(t, e, dack(8, 0))
	quiet(10000, 5)
	e.Close()
	sends(t, e, fin(6, 8))
	answers(t, e, everything) // the end waits too
	quiet(rto(), 7)
	answers(t, e, dack(9, 0))
	quiet(10000, 8)
}

// P13.10: a time above Quiet is not waited for.
func TestWhileLong(t *testing.T) {
	e := end(t, 0, wide, retries(16))
	num := uint64(0)
	for e.Stat().Paths[0].Rto < 20000 { // the timer does not fire, but each answer takes nearly so long
		writes(t, e, "a", 1)
		e.Tick(int(e.Stat().Paths[0].Rto) - 1)
		hear(t, e, everything)
		num++
	}
	writes(t, e, "b", 1)
	hear(t, e, everything)
	e.Out()
	under(t, e, 0, 0, 0, e.Stat().Paths[0].Rto)
	if rto := e.Stat().Paths[0].Rto; rto <= 10000 {
		t.Fatal(rto)
	}
	ticks(t, e, 9999)
	ticks(t, e, 1, probe(num+1))
}

// P13.10, E11: the stream waits too, when nothing of it may go out: the edge is told by the answer to a PROBE.
func TestWhileBarred(t *testing.T) {
	e := end(t, 0, func(c *api.Config) { c.RecvBuf = 4 })
	writes(t, e, "abcdefgh", 8)
	sends(t, e, data(0, 0, "abcd"))
	answers(t, e, ack(0, 1))
	answers(t, e, dack(4, 4)) // the edge bars the second chunk
	ticks(t, e, 199)
	ticks(t, e, 1, probe(1))
	answers(t, e, ack(0, 2))
	answers(t, e, dack(4, 8), data(2, 4, "efgh"))
}

// P13.10: a dead path is probed at each tick at which nothing is under way on it; nothing else goes out there, if another path is usable.
func TestDeadPath(t *testing.T) {
	e := joined(t, end(t, 0, wide, retries(1)), 0, 1)
	writes(t, e, "abcd", 4)
	e.Out()
	strike(t, e, 0, 2)
	under(t, e, 0, 2, 1, 4000)
	writes(t, e, "efgh", 4)
	for _, f := range out(t, e) {
		if f.Path != 1 {
			t.Errorf("%+v", f)
		}
	}
	hear(t, e, on(1, everything))
	answers(t, e, on(1, dack(8, 0)))
	answers(t, e, ack(1<<40, 1<<40+1)) // woken, with a PROBE under way
	under(t, e, 0, 0, 1, 1000)
	hear(t, e, everything)
	e.Out()
	strike(t, e, 0, 2)
	ticks(t, e, 0)
	for range 5 { // gone, but path 1 is not: it is probed on
		e.Tick(60000)
		if f := out(t, e); f[0].Kind != api.KindProbe || f[0].Path != 0 {
			t.Errorf("%+v", f)
		}
		hear(t, e, on(1, everything))
	}
	if s := e.Stat(); s.Err != api.OK || s.Paths[0].Strikes != 7 {
		t.Errorf("%+v", s)
	}
}

// P13.10: a path is probed at once when nothing was sent on it since the clock began; the probe comes behind the handshake's frames of paths below.
func TestTickOrder(t *testing.T) {
	e := joined(t, end(t, 0, wide, paths(4), mss(1)), 0, 1)
	joinPath(t, e, 0, 3, false)
	e.Join(2, false)
	e.Out()
	e.Tick(10000)
	sends(t, e, probe(0), on(1, probe(0)), shaken(2, false)[0], on(3, probe(0)))
	writes(t, e, fifty[:27], 27)
	hear(t, e, on(3, everything))
	e.Out()
	want := []api.Frame{probe(10), on(1, probe(10)), on(3, probe(10))}
	want = append(want, over(3, 11, row(0, 0, fifty[:18], 1)...)...)
	ticks(t, e, 2000, want...)
	// Path 2 has asked once more than it may, and is asked for no longer.
	state(t, e, 3, 3, 0, 3)
}

// P13.10: B's JOINED goes out again by ticks, and then the path is as if it had not been asked for.
func TestAnswerAgain(t *testing.T) {
	e := end(t, 1)
	ticks(t, e, 300)
	f := shaken(1, true)
	answers(t, e, f[0], f[1])
	ticks(t, e, 999)
	ticks(t, e, 1, f[1])
	ticks(t, e, 1999)
	state(t, e, 3, join.Answered)
	ticks(t, e, 1)
	state(t, e, 3, join.None)
	answers(t, e, f[2])
	answers(t, e, f[0], f[1])
	answers(t, e, f[2])
	state(t, e, 3, join.Joined)
}

// P13.10: a path that has just been joined has a time of its own, though nothing was ever sent on it.
func TestJoinedLate(t *testing.T) {
	e := end(t, 0, wide)
	ticks(t, e, 9000)
	joined(t, e, 0, 1)
	ticks(t, e, 999)
	ticks(t, e, 1, probe(0), on(1, probe(0)))
	e = end(t, 0, wide)
	writes(t, e, "abcd", 4)
	e.Tick(999)
	e.Out()
	joined(t, e, 0, 1)
	ticks(t, e, 1, on(1, probe(0)), data(1, 0, "abcd"))
}

// E10: a done side answers frames as ever, and its timers stand still; its clock goes on.
func TestDone(t *testing.T) {
	e := joined(t, end(t, 0, paths(3)), 0, 1)
	e.Join(2, false)
	writes(t, e, "abcd", 4)
	e.Close()
	e.Out()
	answers(t, e, data(0, 1000, "xy"), ack(0, 1), dack(1002, 1012))
	answers(t, e, on(1, dack(5, 12)))
	if e.Stat().Done {
		t.Error("done ahead of the peer's end")
	}
	answers(t, e, on(1, fin(0, 1002)), on(1, ack(0, 1)), on(1, dack(1003, 1012)))
	if !e.Stat().Done {
		t.Error("not done")
	}
	for _, ms := range []int{1000, 10000, 60000, 1 << 30, 60000, 60000, 60000} {
		ticks(t, e, ms)
	}
	if s := e.Stat(); !s.Done || s.Err != api.OK || s.Clock != 251000+1<<30 {
		t.Errorf("%+v", s)
	}
	under(t, e, 0, 0, 2, 1000) // both frames count as under way still
	state(t, e, 3, 3, join.Asked)
	answers(t, e, fin(1, 1002), ack(0, 2), dack(1003, 1012))
	answers(t, e, data(0, 1000, "xy"), ack(0, 2), dack(1003, 1012))
	answers(t, e, on(1, probe(4)), on(1, ack(0, 1, 4, 5)), on(1, dack(1003, 1012)))
	answers(t, e, shaken(2, false)[1], shaken(2, false)[2])
	state(t, e, 3, 3, 3)
	answers(t, e, ack(0, 1))
	under(t, e, 0, 0, 1, 60000) // so long it took
	reads(t, e, 9, "xy", false)
	sends(t, e, dack(1003, 1014))
	reads(t, e, 9, "", true)
	e.Prio(1, true)
	sends(t, e, on(1, prio(true)))
	e.Leave(2)
	sends(t, e, gone(2))
	if n, bad := e.Write([]byte("x")); n != 0 || bad != api.ErrClosed {
		t.Error(n, bad)
	}
	does(t, e.Close, api.ErrClosed)
	does(t, e.Abort, api.OK)
	sends(t, e, rst(9), on(1, rst(9)))
	broken(t, e, api.ErrAborted)
}

// E10, P13.11: done is a side of which both streams have ended and come; the bytes ahead of the peer's end too.
func TestNotDone(t *testing.T) {
	for what := range 8 {
		e := end(t, 1, wide)
		closes, told, ended := what&1 != 0, what&2 != 0, what&4 != 0
		writes(t, e, "ab", 2)
		if closes {
			e.Close()
		}
		if told {
			hear(t, e, dack(1003, 0))
		}
		if ended {
			hear(t, e, fin(0, 1))
			if e.Stat().Done {
				t.Error("done ahead of the last byte")
			}
		}
		hear(t, e, data(1, 0, "x"))
		if want := what == 7; e.Stat().Done != want {
			t.Errorf("closed %v, told %v, ended %v: %+v", closes, told, ended, e.Stat())
		}
		e.Out()
		e.Tick(60000)
		if l := out(t, e); (len(l) == 0) != (what == 7) {
			t.Errorf("closed %v, told %v, ended %v: %+v", closes, told, ended, l)
		}
	}
}

// E9, E10: a done side hears an RST.
func TestResetOfDone(t *testing.T) {
	e := end(t, 1)
	e.Close()
	hear(t, e, dack(1001, 0))
	hear(t, e, fin(0, 0))
	if !e.Stat().Done {
		t.Error("not done")
	}
	e.Out()
	answers(t, e, rst(9))
	broken(t, e, api.ErrReset)
}

// P13.11: what can be read, what lies there, and in how many stretches.
func TestStat(t *testing.T) {
	e := end(t, 1, func(c *api.Config) { c.RecvBuf = 40 })
	hear(t, e, data(0, 0, "abcd"))
	hear(t, e, data(1, 6, "gh"))
	hear(t, e, data(2, 10, "klm"))
	hear(t, e, data(3, 20, "u"))
	look := func(next, own uint64, ready, stored, holes int) {
		t.Helper()
		if s := e.Stat(); s.Next != next || s.Own != own || s.Ready != ready || s.Stored != stored || s.Holes != holes {
			t.Errorf("%+v", s)
		}
	}
	look(4, 40, 4, 10, 3)
	reads(t, e, 3, "abc", false)
	look(4, 43, 1, 7, 3)
	hear(t, e, fin(4, 21))
	look(4, 43, 1, 7, 3)
	hear(t, e, data(5, 4, "ef"))
	look(8, 43, 5, 9, 2)
	hear(t, e, data(6, 8, fifty[8:21]))
	look(22, 43, 18, 18, 0)
	reads(t, e, 99, fifty[3:21-1]+"u", false)
	look(22, 61, 0, 0, 0)
}
