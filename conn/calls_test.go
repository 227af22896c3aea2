package conn_test

import (
	"math"
	"reflect"
	"testing"

	"braid/api"
	"braid/conn"
	"braid/join"
)

// nothing is a DACK that tells nothing new to anybody.
var nothing = dack(0, 0)

// everything is an ACK of all numbers that there are.
var everything = ack(0, 1<<62+1)

// strike lets a path's timer fire until it has so many strikes; on all other joined paths everything is acknowledged in time. What goes out meanwhile is taken.
func strike(t *testing.T, e *conn.End, path, n int) {
	t.Helper()
	for i := 0; e.Stat().Paths[path].Strikes != n; i++ {
		if i > 100000 {
			t.Fatalf("path %d: %+v", path, e.Stat())
		}
		e.Tick(50)
		for other, p := range e.Stat().Paths {
			if p.State == join.Joined && other != path {
				hear(t, e, on(other, everything))
			}
		}
	}
	e.Out()
}

// busy is side A over three paths of which two are joined, with chunks under way on path 0 and bytes to be read.
func busy(t *testing.T) *conn.End {
	t.Helper()
	e := joined(t, end(t, 0, paths(3)), 0, 1)
	writes(t, e, fifty, 20)
	hear(t, e, data(0, 1000, "abc"))
	e.Out()
	return e
}

// E1, E5, E9, E11: behind Abort, an RST and death every call answers the error; the clock goes on.
func TestErrors(t *testing.T) {
	e := busy(t)
	does(t, e.Abort, api.OK)
	sends(t, e, rst(9), on(1, rst(9)))
	broken(t, e, api.ErrAborted)

	for path := range 3 {
		e = busy(t)
		answers(t, e, on(path, rst(7)))
		broken(t, e, api.ErrReset)
	}

	e = busy(t)
	for e.Stat().Err == api.OK {
		e.Out()
		e.Tick(60000)
	}
	if l := out(t, e); len(l) < 2 || !reflect.DeepEqual(l[len(l)-2:], []api.Frame{rst(9), on(1, rst(9))}) {
		t.Errorf("%+v", l)
	}
	broken(t, e, api.ErrDead)

	e = busy(t)
	does(t, e.Close, api.OK)
	e.Abort()
	e.Out()
	broken(t, e, api.ErrAborted) // not ErrClosed
}

// E1, P13.3: what came to be ahead of an error still goes out.
func TestOutBehindError(t *testing.T) {
	e := end(t, 0)
	writes(t, e, "abcde", 5)
	e.Abort()
	sends(t, e, data(0, 0, "abcd"), data(1, 4, "e"), rst(9))
	e = end(t, 0)
	writes(t, e, "abcde", 5)
	hear(t, e, rst(7))
	sends(t, e, data(0, 0, "abcd"), data(1, 4, "e"))
}

// E2, P13.5: as many bytes are accepted as there is room for; ErrClosed behind Close.
func TestWrite(t *testing.T) {
	e := end(t, 0, wide, func(c *api.Config) { c.SendBuf = 10 })
	writes(t, e, "", 0)
	if n, bad := e.Write(nil); n != 0 || bad != api.OK {
		t.Error(n, bad)
	}
	sends(t, e)
	writes(t, e, "abcdefg", 7)
	sends(t, e, data(0, 0, "abcd"), data(1, 4, "efg"))
	writes(t, e, "hijkl", 3)
	sends(t, e, data(2, 7, "hij"))
	writes(t, e, "k", 0)
	answers(t, e, ack(0, 3)) // an ACK makes no room
	writes(t, e, "k", 0)
	answers(t, e, dack(5, 40)) // v does, within a chunk too
	writes(t, e, "klmnopqr", 5)
	sends(t, e, data(3, 10, "klmn"), data(4, 14, "o"))
	does(t, e.Close, api.OK)
	sends(t, e, fin(5, 15))
	for range 2 {
		if n, bad := e.Write([]byte("p")); n != 0 || bad != api.ErrClosed {
			t.Error(n, bad)
		}
		does(t, e.Close, api.ErrClosed)
	}
	sends(t, e)
	reads(t, e, 5, "", false)
}

// E2: no number of chunks is too many.
func TestManyChunks(t *testing.T) {
	e := end(t, 0, mss(1), func(c *api.Config) { c.SendBuf, c.RecvBuf = 65536, 65536 })
	all := make([]byte, 70000)
	if n, bad := e.Write(all); n != 65536 || bad != api.OK {
		t.Error(n, bad)
	}
	e.Close()
	if l := e.Out(); len(l) != 10 {
		t.Errorf("%d go out", len(l))
	}
}

// E2: no offset above MaxOff is made, and each that is can be told.
func TestLastOffsets(t *testing.T) {
	const most = 1 << 62
	e := end(t, 0, func(c *api.Config) { c.Base = [2]uint64{most, most} })
	writes(t, e, "a", 0)
	e.Close()
	sends(t, e, fin(0, most))
	answers(t, e, fin(0, most), ack(0, 1), dack(most+1, most+12))
	reads(t, e, 1, "", true)
	answers(t, e, dack(most+1, most+12))
	if s := e.Stat(); !s.Done || s.Free != 20 || s.Acked != most+1 || s.Next != most+1 {
		t.Errorf("%+v", s)
	}

	e = end(t, 1, func(c *api.Config) { c.Base = [2]uint64{most - 2, most - 5} })
	writes(t, e, "abcdefghi", 5)
	sends(t, e, data(0, most-5, "abcd"), data(1, most-1, "e"))
	writes(t, e, "f", 0)
	answers(t, e, data(1<<62, most-2, "xy"), ack(1<<62, 1<<62+1), dack(most, most+10))
	answers(t, e, dack(most, 1<<63))
	e.Close()
	sends(t, e, fin(2, most))
	answers(t, e, dack(most+1, 1<<63))
	if s := e.Stat(); s.Done || s.Acked != most+1 || s.Edge != 1<<63 || s.Own != most+10 {
		t.Errorf("%+v", s)
	}
}

// E3, P13.5: Read.
func TestRead(t *testing.T) {
	e := end(t, 1)
	reads(t, e, 9, "", false)
	hear(t, e, data(1, 4, "ef"))
	reads(t, e, 9, "", false)
	hear(t, e, data(0, 0, "abcd"))
	e.Out()
	for _, n := range []int{0, -1, math.MinInt} {
		reads(t, e, n, "", false)
		sends(t, e)
	}
	reads(t, e, 5, "abcde", false)
	sends(t, e, dack(6, 17))
	reads(t, e, 5, "f", false)
	sends(t, e, dack(6, 18))
	reads(t, e, 5, "", false)
	sends(t, e)
	answers(t, e, fin(2, 6), ack(0, 3), dack(7, 18))
	for _, n := range []int{5, 0, -1, math.MaxInt, math.MinInt} {
		reads(t, e, n, "", true)
	}
	sends(t, e)
	e = end(t, 1)
	hear(t, e, data(0, 0, "abcd"))
	hear(t, e, fin(1, 4))
	e.Out()
	reads(t, e, math.MaxInt, "abcd", false)
	sends(t, e, dack(5, 16))
	reads(t, e, 0, "", true)
	sends(t, e)
}

// P13.5: Read's DACK goes out on the lowest usable path, or else on the lowest joined one.
func TestReadPath(t *testing.T) {
	text := []byte("abcdefghijklmnopqrstuvwxyz")
	for _, x := range []struct {
		what  string
		set   func(e *conn.End)
		wants int
	}{
		{"all are usable", func(*conn.End) {}, 0},
		{"path 0 has a strike", func(e *conn.End) { strike(t, e, 0, 1) }, 0},
		{"path 0 is dead", func(e *conn.End) { strike(t, e, 0, 2) }, 1},
		{"path 0 is gone", func(e *conn.End) { strike(t, e, 0, 3) }, 1},
		{"path 0 is left", func(e *conn.End) { e.Leave(0) }, 1},
		{"path 1 is dead", func(e *conn.End) { strike(t, e, 1, 2) }, 0},
		{"path 0 is left, path 1 is dead", func(e *conn.End) { e.Leave(0); strike(t, e, 1, 2) }, 2},
		{"paths 0 and 1 are left", func(e *conn.End) { e.Leave(0); e.Leave(1) }, 2},
		{"all are dead", func(e *conn.End) { allDead(t, e) }, 0},
		{"path 0 is left, the others are dead", func(e *conn.End) { e.Leave(0); allDead(t, e) }, 1},
		{"path 0 is for want of others", func(e *conn.End) { hear(t, e, prio(true)) }, 0},
	} {
		t.Run(x.what, func(t *testing.T) {
			e := joined(t, end(t, 1, wide, paths(4)), 1, 2)
			for i := range text {
				hear(t, e, data(uint64(i), uint64(i), string(text[i:i+1])))
			}
			x.set(e)
			e.Out()
			reads(t, e, 3, "abc", false)
			sends(t, e, on(x.wants, dack(26, 4003)))
		})
	}
}

// allDead lets all paths of a side that has Retries 1 die.
func allDead(t *testing.T, e *conn.End) {
	t.Helper()
	for range 3 {
		e.Tick(60000)
	}
	for i, p := range e.Stat().Paths {
		if p.State == join.Joined && p.Strikes != 2 {
			t.Fatalf("path %d: %+v", i, p)
		}
	}
}

// E4, E6: the end goes out when every other chunk has gone out once, be it beyond the edge itself.
func TestClose(t *testing.T) {
	tight := func(c *api.Config) { c.RecvBuf = 8 }
	e := end(t, 0, tight)
	writes(t, e, "abcdefghijk", 11)
	does(t, e.Close, api.OK)
	sends(t, e, data(0, 0, "abcd"), data(1, 4, "efgh"))
	answers(t, e, ack(0, 2))
	answers(t, e, dack(8, 10))
	answers(t, e, dack(8, 11), data(2, 8, "ijk"), fin(3, 11))
	if s := e.Stat(); !s.Closed || s.High != 11 || s.End != 11 || s.Done {
		t.Errorf("%+v", s)
	}
	e = end(t, 0, tight)
	writes(t, e, "abcdefgh", 8)
	e.Close()
	sends(t, e, data(0, 0, "abcd"), data(1, 4, "efgh"), fin(2, 8))
	e = end(t, 0)
	e.Close()
	sends(t, e, fin(0, 0))
}

// E5: RST goes out once on each joined path, rising, dead or not.
func TestAbort(t *testing.T) {
	e := joined(t, end(t, 0, paths(5)), 0, 3)
	e.Join(4, false)
	e.Leave(1)
	strike(t, e, 2, 2)
	does(t, e.Abort, api.OK)
	sends(t, e, rst(9), on(2, rst(9)), on(3, rst(9)))
	if s := e.Stat(); s.Err != api.ErrAborted {
		t.Errorf("%+v", s)
	}
	broken(t, e, api.ErrAborted)
}

// strange is numbers that no path of a connection of three has.
var strange = []int{-1, 3, 7, 8, 255, 256, 1 << 32, math.MaxInt, math.MinInt}

// P13.6: Join, at A, of a path that is not joined yet.
func TestJoin(t *testing.T) {
	for _, backup := range []bool{true, false} {
		e := end(t, 0, paths(3))
		asked := shaken(2, backup)[0]
		e.Join(2, backup)
		sends(t, e, asked)
		state(t, e, 3, 0, 1)
		if e.Stat().Paths[2].Backup != backup {
			t.Errorf("%+v", e.Stat())
		}
		e.Join(2, !backup) // it was asked for already
		sends(t, e)
		if e.Stat().Paths[2].Backup != backup {
			t.Errorf("%+v", e.Stat())
		}
		hear(t, e, shaken(2, backup)[1])
		e.Out()
		before := e.Stat()
		e.Join(2, !backup) // it is joined
		e.Join(0, true)
		for _, path := range strange {
			e.Join(path, true)
		}
		sends(t, e)
		if s := e.Stat(); !reflect.DeepEqual(s, before) {
			t.Errorf("%+v, want %+v", s, before)
		}
		e.Leave(2)
		e.Out()
		e.Join(2, backup) // it is left
		sends(t, e)
		state(t, e, 3, 0, 4)
	}
	b := end(t, 1, paths(3))
	for _, path := range append(strange, 0, 1, 2) {
		b.Join(path, true) // B never asks
	}
	sends(t, b)
	state(t, b, 3, 0, 0)
	if s := b.Stat(); s.Paths[1].Backup {
		t.Errorf("%+v", s)
	}
}

// P13.6, P13.10: the JOIN goes out again by ticks, with doubled times, from the clock of Join on; then one may ask anew.
func TestJoinAgain(t *testing.T) {
	e := end(t, 0, retries(2))
	ticks(t, e, 500)
	asked := shaken(1, true)[0]
	e.Join(1, true)
	sends(t, e, asked)
	ticks(t, e, 999)
	ticks(t, e, 1, asked)
	ticks(t, e, 1999)
	ticks(t, e, 1, asked)
	ticks(t, e, 3999)
	state(t, e, 3, 1)
	ticks(t, e, 1)
	state(t, e, 3, 0)
	e.Join(1, false)
	sends(t, e, shaken(1, false)[0])
	if e.Stat().Paths[1].Backup {
		t.Errorf("%+v", e.Stat())
	}
}

// P13.6: Prio tells the peer on the path; this side's own flag stays.
func TestPrio(t *testing.T) {
	for side := range 2 {
		e := joined(t, end(t, side, paths(3)), side, 1)
		for _, backup := range []bool{true, false, false, true} {
			for path := range 2 {
				e.Prio(path, backup)
				sends(t, e, on(path, prio(backup)))
				if e.Stat().Paths[path].Backup {
					t.Errorf("%+v", e.Stat())
				}
			}
			for _, path := range append(strange, 2) {
				e.Prio(path, backup)
			}
			sends(t, e)
		}
		strike(t, e, 1, 2)
		e.Prio(1, true) // dead, but joined
		sends(t, e, on(1, prio(true)))
		e.Leave(1)
		e.Out()
		e.Prio(1, true)
		sends(t, e)
		if side == api.SideA {
			e.Join(2, true)
			e.Out()
			e.Prio(2, true) // asked for, but not joined
			sends(t, e)
		}
	}
}

// P13.6: a path is left: its chunks go out again on others, behind a GONE on the lowest joined one.
func TestLeave(t *testing.T) {
	e := joined(t, end(t, 0, wide, paths(4)), 0, 2)
	writes(t, e, fifty[:48], 48)
	chunks := row(0, 0, fifty[:48], 4)
	sends(t, e, append(chunks[:10:10], over(1, 0, chunks[10:]...)...)...)
	answers(t, e, ack(0, 1))
	e.Tick(100)
	// Six are lost; the window has room for four of them beside two that are under way, and path 1 takes the others.
	answers(t, e, ack(9, 10), append(over(0, 10, chunks[1:5]...), over(1, 2, chunks[5:7]...)...)...)
	answers(t, e, prio(true))
	window(t, e, 0, 6144, 6144)
	e.Leave(0)
	again := append(chunks[1:5:5], chunks[7:9]...)
	sends(t, e, append([]api.Frame{on(1, gone(0))}, over(1, 4, again...)...)...)
	left := api.PathStat{State: join.Left, Backup: true, Window: api.Window{Cwnd: 6144, Thresh: 6144}, Rto: 1000}
	if s := e.Stat(); s.Paths[0] != left || s.Paths[1].Inflight != 10 {
		t.Errorf("%+v, want %+v", s.Paths, left)
	}
	hear(t, e, ack(1, 9)) // nothing is heard on it any more
	hear(t, e, data(0, 1000, "x"))
	sends(t, e)
	e.Leave(0)
	sends(t, e)
	e.Leave(2)
	if l := out(t, e); !reflect.DeepEqual(l[0], on(1, gone(2))) {
		t.Errorf("%+v", l)
	}
	state(t, e, 4, 3, 4, 0)
	e.Leave(1) // the last one
	sends(t, e)
	state(t, e, 4, 3, 4, 0)
}

// P13.6: GONE goes out on the lowest joined path, dead or not; what may not be left is not.
func TestLeaveWhich(t *testing.T) {
	for side := range 2 {
		e := end(t, side, paths(3))
		e.Leave(0) // the only one
		sends(t, e)
		joined(t, e, side, 2)
		for _, path := range strange {
			e.Leave(path)
		}
		sends(t, e)
		state(t, e, 3, 3, 3)
		strike(t, e, 0, 2)
		e.Leave(2)
		sends(t, e, gone(2))
		strike(t, e, 1, 2)
		before := e.Stat()
		e.Leave(2)
		sends(t, e)
		if s := e.Stat(); !reflect.DeepEqual(s, before) {
			t.Errorf("%+v, want %+v", s, before)
		}
		e.Leave(0)
		sends(t, e, on(1, gone(0)))
		state(t, e, 4, 3, 4)
	}
	e := end(t, 0)
	e.Join(1, false)
	e.Out()
	e.Leave(1) // asked for, but not joined
	e.Leave(0) // no other one is joined
	sends(t, e)
	state(t, e, 3, 1)
}

// P13.6: a path that is left has a new Flow; its windows and its flag stay as they were.
func TestLeaveProbe(t *testing.T) {
	e := joined(t, end(t, 0, retries(2)), 0, 1)
	writes(t, e, "abcd", 4)
	ticks(t, e, 1000, data(0, 0, "abcd"), on(1, probe(0)), data(1, 0, "abcd"))
	e.Leave(1) // a probe is no chunk: the chunk at the same offset is under way on path 0 still
	sends(t, e, gone(1))
	if s := e.Stat(); s.Paths[1] != fresh(join.Left) || s.Paths[0].Inflight != 1 {
		t.Errorf("%+v", s)
	}
	ticks(t, e, 60000, probe(2)) // the timer has fired; it takes the window's one place
	ticks(t, e, 60000, probe(3))
	if s := e.Stat(); s.Paths[1].Strikes != 0 || s.Paths[1].Inflight != 0 {
		t.Errorf("%+v", s)
	}
}
