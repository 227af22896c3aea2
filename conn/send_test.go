package conn_test

import (
	"math"
	"reflect"
	"slices"
	"testing"

	"braid/api"
	"braid/cong"
	"braid/conn"
)

// timed is side A over so many paths, all joined, whose times there and back are these; nothing is under way.
func timed(t *testing.T, times []int, changes ...change) *conn.End {
	t.Helper()
	changes = append([]change{wide, mss(1), paths(len(times))}, changes...)
	e := joined(t, end(t, 0, changes...), 0, len(times)-1)
	e.Tick(10000)
	e.Out()
	order := make([]int, len(times))
	for i := range order {
		order[i] = i
	}
	slices.SortFunc(order, func(a, b int) int { return times[a] - times[b] })
	now := 0
	for _, path := range order {
		e.Tick(times[path] - now)
		now = times[path]
		hear(t, e, on(path, ack(0, 1)))
		if p := e.Stat().Paths[path]; !p.Known || p.Srtt != uint64(now) || p.Inflight != 0 {
			t.Fatalf("path %d: %+v", path, p)
		}
	}
	e.Out()
	return e
}

// routes is the paths on which chunks go out, in their order.
func routes(t *testing.T, e *conn.End) []int {
	t.Helper()
	var l []int
	for _, f := range out(t, e) {
		if f.Kind == api.KindData || f.Kind == api.KindFin {
			l = append(l, f.Path)
		}
	}
	return l
}

// takes fails unless a text of so many bytes, a chunk each, goes out on these paths.
func takes(t *testing.T, e *conn.End, n int, want ...int) {
	t.Helper()
	writes(t, e, fifty[:n], n)
	if l := routes(t, e); !slices.Equal(l, want) {
		t.Errorf("goes out on %v, want %v", l, want)
	}
}

// times is a path so many times.
func times(n, path int) []int { return slices.Repeat([]int{path}, n) }

// P13.9, P13.2: MinRtt takes the quickest path that has room; so does Single.
func TestMinRtt(t *testing.T) {
	for _, sched := range []int{api.MinRtt, api.Single} {
		e := timed(t, []int{300, 100, 200}, kind(sched))
		takes(t, e, 35, slices.Concat(times(10, 1), times(10, 2), times(10, 0))...)
		for i := range 3 {
			under(t, e, i, 0, 10, e.Stat().Paths[i].Rto)
		}
		hear(t, e, on(2, ack(1, 3))) // two more frames of window, and two that are under way no more
		if l := routes(t, e); !slices.Equal(l, times(4, 2)) {
			t.Error(l)
		}
		hear(t, e, on(0, ack(1, 2)))
		if l := routes(t, e); !slices.Equal(l, times(1, 0)) {
			t.Error(l)
		}
	}
	e := joined(t, end(t, 0, wide, mss(1)), 0, 1) // of times that are not known the lesser number
	takes(t, e, 15, append(times(10, 0), times(5, 1)...)...)
}

// P13.9, P13.2: RoundRobin gives each path its weight; 1, where there is none.
func TestRoundRobin(t *testing.T) {
	e := timed(t, []int{300, 100, 200}, kind(api.RoundRobin, 3, 2))
	takes(t, e, 14, 0, 0, 0, 1, 1, 2, 0, 0, 0, 1, 1, 2, 0, 0)
	takes(t, e, 1, 0)
	takes(t, e, 1, 1)
	hear(t, e, on(1, prio(true)))
	takes(t, e, 4, 2, 0, 2, 2) // path 0 is full
	e = timed(t, []int{300, 100}, kind(api.RoundRobin))
	takes(t, e, 5, 0, 1, 0, 1, 0)
}

// P13.9: Redundant sends each chunk on each path, the path that is farthest behind first; what is acknowledged goes out nowhere again.
func TestRedundant(t *testing.T) {
	e := timed(t, []int{300, 100}, kind(api.Redundant))
	takes(t, e, 3, 0, 1, 0, 1, 0, 1)
	e.Close()
	sends(t, e, fin(4, 3), on(1, fin(4, 3)))
	hear(t, e, ack(1, 2))
	sends(t, e)
	hear(t, e, on(1, ack(4, 5))) // chunk 0, held by path 0, is lost on path 1
	sends(t, e)
	under(t, e, 1, 0, 2, e.Stat().Paths[1].Rto)
	e.Tick(60000)
	l := out(t, e) // neither the first chunk, nor the end, goes out again
	for _, f := range l {
		if f.Kind != api.KindProbe && (f.Kind != api.KindData || f.Off != 1 && f.Off != 2) {
			t.Errorf("%+v", f)
		}
	}
}

// P13.9: Blest leaves a slow path alone where it would hold up the quick one: by the edge, the windows and the Mss.
func TestBlest(t *testing.T) {
	for _, x := range []struct {
		room int // how far the edge is
		want int // so many of 20 bytes go out on the slow path
	}{
		// X is 1 * (2 * 10 + 2) * 3 / 2 = 33; R is the edge less the offset, less 1, 2, .. of what is under way there.
		{10 + 34, 1}, {10 + 33, 0}, {10 + 36, 2}, {10 + 35, 1}, {10 + 37, 2}, {10 + 38, 3}, {4000, 10},
	} {
		e := timed(t, []int{100, 300}, kind(api.Blest), func(c *api.Config) { c.RecvBuf = x.room })
		takes(t, e, 20, append(times(10, 0), times(x.want, 1)...)...)
	}
	e := timed(t, []int{100, 300}, kind(api.Blest), mss(4), func(c *api.Config) { c.RecvBuf = 10 + 34 })
	takes(t, e, 20, times(5, 0)...)
	e = timed(t, []int{100, 300}, kind(api.Blest), mss(2), func(c *api.Config) { c.RecvBuf = 20 + 68 })
	takes(t, e, 40, append(times(10, 0), 1)...)
}

// P13.9: a path for want of others is taken when no other one is usable: others are dead, left, or such paths too.
func TestBackup(t *testing.T) {
	for _, sched := range []int{api.MinRtt, api.RoundRobin, api.Redundant, api.Blest} {
		e := timed(t, []int{300, 100}, kind(sched))
		hear(t, e, on(1, prio(true)))
		takes(t, e, 12, times(10, 0)...)
		hear(t, e, prio(true)) // both are now
		if l := routes(t, e); len(l) == 0 || slices.Contains(l, 0) {
			t.Errorf("scheduler %d: %v", sched, l)
		}
		e = timed(t, []int{300, 100}, kind(sched))
		hear(t, e, on(1, prio(true)))
		strike(t, e, 0, 2)
		takes(t, e, 1, 1) // its window is not more than one
		e = timed(t, []int{300, 100}, kind(sched))
		hear(t, e, on(1, prio(true)))
		e.Leave(0)
		takes(t, e, 2, 1, 1)
	}
}

// P13.9, S4: no more goes out on a path than its window has room for, probes counted; MaxWindow at most.
func TestWindow(t *testing.T) {
	e := end(t, 0, mss(1), func(c *api.Config) { c.SendBuf, c.RecvBuf = 65536, 65536 })
	ticks(t, e, 10000, probe(0))
	e.Write(make([]byte, 65536))
	if l := routes(t, e); len(l) != 9 {
		t.Errorf("%d go out beside a PROBE", len(l))
	}
	next := uint64(10)
	for w := 10; w < 256; {
		hear(t, e, ack(0, next))
		n := len(routes(t, e))
		acked := w
		if w == 10 {
			acked = 9
		}
		w = min(w+acked, 256)
		if n != w {
			t.Fatalf("%d go out, want %d", n, w)
		}
		next += uint64(n)
	}
	window(t, e, 0, 262144, 262144)
	hear(t, e, ack(0, next))
	if n := len(routes(t, e)); n != 256 {
		t.Errorf("%d go out", n)
	}
	under(t, e, 0, 0, 256, 200)
}

// P13.8: windows beyond slow start grow coupled, over the paths that are usable and whose times are known.
func TestCoupled(t *testing.T) {
	// grown is by how much path 0's window grows by one chunk, behind losses on both paths, and what its own step would be.
	grown := func(t *testing.T, set func(e *conn.End)) (int, int) {
		e := timed(t, []int{100, 200}, kind(api.RoundRobin), retries(2))
		takes(t, e, 10, 0, 1, 0, 1, 0, 1, 0, 1, 0, 1)
		for path := range 2 {
			hear(t, e, on(path, ack(5, 6))) // of the numbers 1 to 5 two are lost
			window(t, e, path, 5632, 5632)
		}
		set(e)
		for e.Stat().Paths[0].Inflight > 0 {
			hear(t, e, everything)
		}
		e.Out()
		before := e.Stat().Paths[0].Window
		writes(t, e, "xy", 2)
		for _, f := range out(t, e) {
			if f.Path == 0 {
				hear(t, e, ack(f.Num, f.Num+1))
				break
			}
		}
		after := e.Stat().Paths[0].Window
		if before.Cwnd < before.Thresh || after.Thresh != before.Thresh {
			t.Fatalf("%+v, %+v", before, after)
		}
		return after.Cwnd - before.Cwnd, 1048576 / before.Cwnd
	}
	if n, own := grown(t, func(*conn.End) {}); n >= own || n < 1 {
		t.Errorf("both count: %d, its own step is %d", n, own)
	}
	if n, own := grown(t, func(e *conn.End) { e.Leave(1) }); n != own {
		t.Errorf("path 1 is left: %d, its own step is %d", n, own)
	}
	if n, own := grown(t, func(e *conn.End) { strike(t, e, 1, 3) }); n != own {
		t.Errorf("path 1 is dead: %d, its own step is %d", n, own)
	}
	if n, own := grown(t, func(e *conn.End) { strike(t, e, 1, 2) }); n >= own || n < 1 {
		t.Errorf("path 1 has strikes: %d, its own step is %d", n, own)
	}
}

// P13.8: the same to the last part, by a Group that is told it.
func TestCoupledStep(t *testing.T) {
	e := timed(t, []int{100, 200}, kind(api.RoundRobin))
	takes(t, e, 10, 0, 1, 0, 1, 0, 1, 0, 1, 0, 1)
	hear(t, e, ack(5, 6))
	hear(t, e, on(1, ack(5, 6)))
	e.Tick(70)
	g := cong.New(2)
	for path := range 2 {
		g.Acked(path, 1)
		g.Cut(path)
		g.Take(path, true)
	}
	for path := range 2 {
		hear(t, e, on(path, ack(3, 4)))
		for i, p := range e.Stat().Paths {
			g.Rtt(i, p.Srtt)
		}
		g.Acked(path, 1)
		window(t, e, path, g.Window(path).Cwnd, g.Window(path).Thresh)
	}
}

// S3, P13.9: of Replay's decisions the guard drops each that may not be, and nothing else happens by it.
func TestGuard(t *testing.T) {
	wrong := []api.Pick{
		{Path: -1, Len: 4}, {Path: 2, Len: 4}, {Path: 3, Len: 4}, {Path: 8, Len: 4}, {Path: math.MaxInt, Len: 4}, {Path: math.MinInt, Len: 4},
		{Path: 1, Len: 4},                  // a path that is not joined
		{Off: 0, Len: 3}, {Off: 0, Len: 5}, // another length
		{Off: 1, Len: 3}, {Off: 4, Len: 0}, // no chunk begins there, or not the end
		{Off: 8, Len: 4},                      // beyond the edge
		{Off: 20, Len: 0}, {Off: 100, Len: 4}, // the end, ahead of its time; what is not there
		{Off: math.MaxUint64, Len: math.MaxInt},
	}
	good := api.Pick{Off: 0, Len: 4}
	tight := func(c *api.Config) { c.RecvBuf = 11 }
	for _, p := range wrong {
		e := end(t, 0, tight, paths(3), replays(p, p, good, p))
		writes(t, e, fifty[:20], 20)
		sends(t, e, data(0, 0, "abcd"))
		e = end(t, 0, tight, paths(3), replays(p))
		writes(t, e, fifty[:20], 20)
		e.Close()
		sends(t, e)
		if s := e.Stat(); s.High != 0 || s.Paths[0].Inflight != 0 || s.Acked != 0 || s.Free != 0 {
			t.Errorf("%+v: %+v", p, s)
		}
	}
	e := end(t, 0, tight, replays(append(wrong, good, good, api.Pick{Off: 4, Len: 4})...)) // twice on one path
	writes(t, e, fifty[:20], 20)
	sends(t, e, data(0, 0, "abcd"), data(1, 4, "efgh"))
}

// S3: a decision for a path that is dead, left, or full is dropped; one for a chunk that is held too.
func TestGuardOfPaths(t *testing.T) {
	pause := api.Pick{Len: -1}
	// A path that is dead: it is asked often until then.
	list := append(slices.Repeat([]api.Pick{pause}, 5000), api.Pick{Path: 1, Len: 4}, api.Pick{Len: 4})
	e := joined(t, end(t, 0, wide, replays(list...)), 0, 1)
	strike(t, e, 1, 2)
	writes(t, e, "abcd", 4)
	var l []int
	for len(l) == 0 {
		writes(t, e, "", 0)
		l = routes(t, e)
	}
	if !slices.Equal(l, []int{0}) || e.Stat().Paths[1].Strikes != 2 {
		t.Error(l)
	}

	// A window of ten, and an eleventh chunk.
	list = nil
	for i := range uint64(12) {
		list = append(list, api.Pick{Off: i, Len: 1})
	}
	e = end(t, 0, wide, mss(1), replays(list...))
	writes(t, e, fifty[:12], 12)
	sends(t, e, row(0, 0, fifty[:10], 1)...)

	// A chunk that is held.
	e = end(t, 0, wide, replays(api.Pick{Len: 4}, pause, api.Pick{Len: 4}, api.Pick{Off: 4, Len: 4}))
	writes(t, e, "abcdefgh", 8)
	sends(t, e, data(0, 0, "abcd"))
	answers(t, e, ack(0, 1), data(1, 4, "efgh"))

	// A path that is left.
	e = joined(t, end(t, 0, wide, replays(pause, pause, api.Pick{Path: 1, Len: 4}, api.Pick{Len: 4})), 0, 1)
	e.Leave(1)
	e.Out()
	writes(t, e, "abcd", 4)
	sends(t, e, data(0, 0, "abcd"))
}

// loaded is side A, of paths that are all joined, with a chunk to be sent and a Replay that decides for it when it is asked next.
func loaded(t *testing.T, more int, changes ...change) *conn.End {
	t.Helper()
	var list []api.Pick
	for range more + 1 { // each path that is joined asks, and so does Write
		list = append(list, api.Pick{Len: -1})
	}
	list = append(list, api.Pick{Len: 4}, api.Pick{Len: -1}, api.Pick{Off: 4, Len: 4})
	changes = append([]change{wide, paths(4), replays(list...)}, changes...)
	e := joined(t, end(t, 0, changes...), 0, more)
	writes(t, e, "abcdefgh", 8)
	sends(t, e)
	return e
}

// P13.5, P13.6, P13.7, P13.10: which calls send, and that they do it once.
func TestWhoSends(t *testing.T) {
	chunk := func(f api.Frame) bool { return f.Kind == api.KindData }
	bytesOf := func(f api.Frame) func(*conn.End) {
		return func(e *conn.End) { hear(t, e, f) }
	}
	asked := api.Frame{Kind: api.KindJoin, Token: tokenOf(9), Nonce: 5}
	for _, x := range []struct {
		what string
		call func(e *conn.End)
		asks bool
	}{
		{"Write", func(e *conn.End) { e.Write([]byte("x")) }, true},
		{"Write of nothing", func(e *conn.End) { e.Write(nil) }, true},
		{"Close", func(e *conn.End) { e.Close() }, true},
		{"Read", func(e *conn.End) { e.Read(9) }, false},
		{"Abort", func(e *conn.End) { e.Abort() }, false},
		{"Join", func(e *conn.End) { e.Join(2, true) }, false},
		{"Join of a joined path", func(e *conn.End) { e.Join(1, true) }, false},
		{"Prio", func(e *conn.End) { e.Prio(1, true) }, false},
		{"Leave", func(e *conn.End) { e.Leave(1) }, true},
		{"Leave of a path that is not joined", func(e *conn.End) { e.Leave(2) }, false},
		{"Tick", func(e *conn.End) { e.Tick(0) }, true},
		{"Stat", func(e *conn.End) { e.Stat() }, false},
		{"DATA", bytesOf(data(0, 1000, "a")), true},
		{"DATA that is refused", bytesOf(data(0, 9000, "a")), true},
		{"DATA on a path that is not joined", bytesOf(on(2, data(0, 1000, "a"))), false},
		{"FIN", bytesOf(fin(0, 1000)), true},
		{"PROBE", bytesOf(probe(0)), true},
		{"ACK", bytesOf(ack(0, 1)), true},
		{"DACK", bytesOf(dack(0, 1)), true},
		{"DACK that is not heard", bytesOf(dack(99, 1)), true},
		{"RST of another token", bytesOf(rst(9)), false},
		{"RST", bytesOf(rst(7)), false},
		{"JOIN on path 0", bytesOf(asked), true},
		{"JOIN on a joined path", bytesOf(on(1, asked)), true},
		{"JOIN on a path that is not joined", bytesOf(on(2, asked)), false},
		{"JOINED again", bytesOf(shaken(1, false)[1]), true},
		{"JOINED that was not asked for", bytesOf(shaken(2, false)[1]), false},
		{"PROVE", bytesOf(shaken(1, false)[2]), true},
		{"PRIO", bytesOf(prio(false)), true},
		{"GONE", bytesOf(gone(1)), true},
		{"GONE of a path that is not joined", bytesOf(gone(2)), true},
		{"no frame", func(e *conn.End) { e.Receive(0, []byte("no frame")) }, false},
	} {
		t.Run(x.what, func(t *testing.T) {
			e := loaded(t, 1)
			x.call(e)
			n := 0
			for _, f := range out(t, e) {
				if chunk(f) {
					n++
				}
			}
			if n > 1 || (n == 1) != x.asks {
				t.Errorf("%d chunks", n)
			}
		})
	}
}

// P13.5: behind a Write or Close that was refused the side does not send.
func TestRefusedSendsNot(t *testing.T) {
	pause := api.Pick{Len: -1}
	e := end(t, 0, replays(pause, pause, api.Pick{Len: 4}))
	writes(t, e, "abcd", 4)
	does(t, e.Close, api.OK)
	if n, bad := e.Write([]byte("x")); n != 0 || bad != api.ErrClosed {
		t.Error(n, bad)
	}
	does(t, e.Close, api.ErrClosed)
	sends(t, e)
	ticks(t, e, 0, data(0, 0, "abcd"))
}

// P13.2: each side has its own list of Replay, and a Len of 0 is the end's.
func TestPicksOfSides(t *testing.T) {
	for side := range 2 {
		base := uint64(1000 * side)
		e := end(t, side, func(c *api.Config) {
			c.Sched = api.Replay
			c.Picks[side] = []api.Pick{{Len: -1}, {Off: base + 4, Len: 1}, {Off: base, Len: 4}, {Off: base + 5}}
		})
		writes(t, e, "abcde", 5)
		sends(t, e)
		e.Close()
		sends(t, e, data(0, base+4, "e"), data(1, base, "abcd"), fin(2, base+5))
		other := end(t, 1-side, func(c *api.Config) { c.Sched, c.Picks[side] = api.Replay, []api.Pick{{Off: 1000 - base, Len: 4}} })
		writes(t, other, "abcde", 5)
		sends(t, other)
	}
}

// P13.12, S3: Replay lets chunks go out in any order, and twice on two paths; High is behind the farthest.
func TestReplayOrder(t *testing.T) {
	pause := api.Pick{Len: -1}
	e := joined(t, end(t, 0, wide, replays(pause, api.Pick{Path: 1, Off: 8, Len: 2}, api.Pick{Off: 8, Len: 2}, api.Pick{Path: 1, Off: 8, Len: 2}, api.Pick{Path: 1, Len: 4})), 0, 1)
	writes(t, e, "abcdefghij", 10)
	sends(t, e, on(1, data(0, 8, "ij")), data(0, 8, "ij"), on(1, data(1, 0, "abcd")))
	if s := e.Stat(); s.High != 10 || s.Paths[0].Inflight != 1 || s.Paths[1].Inflight != 2 {
		t.Errorf("%+v", s)
	}
}

// P10.8: over one usable path the four schedulers send the same, whatever happens.
func TestOnePath(t *testing.T) {
	d := dice(108)
	for range 200 {
		seed := dice(d.below(1 << 40))
		var want []api.Frame
		for sched := range 4 {
			own := seed
			got := onePathRow(t, &own, sched)
			if sched == 0 {
				want = got
			}
			if len(want) == 0 || !reflect.DeepEqual(got, want) {
				t.Fatalf("scheduler %d: %+v, want %+v", sched, got, want)
			}
		}
	}
}

// onePathRow is what a side sends in a row of calls that hangs on the dice alone.
func onePathRow(t *testing.T, d *dice, sched int) []api.Frame {
	t.Helper()
	which := d.oneOf(0, 1)
	e := end(t, 0, wide, paths(3), mss(d.oneOf(1, 3)), retries(16), kind(sched, 5, 2))
	if which == 1 { // path 0 is left, path 1 alone is usable
		joined(t, e, 0, 1)
		e.Leave(0)
	}
	var l []api.Frame
	sent := uint64(0)
	for range 60 {
		switch d.below(8) {
		case 0, 1:
			writes(t, e, fifty[:20], 20)
		case 2:
			e.Tick(d.oneOf(10, 200, 1000, 3000))
		case 3, 4, 5:
			lo := sent - min(sent, d.below(12))
			hear(t, e, on(which, ack(lo, lo+1+d.below(3))))
		case 6:
			hear(t, e, on(which, dack(d.below(e.Stat().High+1), 4000+d.below(300))))
		default:
			hear(t, e, on(which, prio(d.one(2))))
		}
		for _, f := range out(t, e) {
			if f.Kind <= api.KindProbe {
				sent = f.Num + 1
			}
			l = append(l, f)
		}
	}
	return l
}
