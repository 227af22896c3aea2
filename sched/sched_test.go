package sched_test

import (
	"math"
	"reflect"
	"slices"
	"testing"

	"braid/api"
	"braid/sched"
)

var deciders = []int{api.MinRtt, api.RoundRobin, api.Redundant, api.Blest}

func chunk(off uint64, n int) api.Chunk { return api.Chunk{Off: off, Len: n} }

// three is the chapter's P.
func three() api.View {
	return api.View{Has: true, Want: chunk(100, 10), Edge: 400, Mss: 10, Paths: []api.PathView{
		{Usable: true, Known: true, Srtt: 50, Window: 2, Inflight: 2, Has: true, Next: chunk(100, 10)},
		{Usable: true, Known: true, Srtt: 20, Window: 4, Inflight: 1, Has: true, Next: chunk(90, 10)},
		{Usable: true, Backup: true, Known: true, Srtt: 1, Window: 9, Has: true, Next: chunk(80, 10)},
	}}
}

// free is a path with room whose time is known.
func free(srtt uint64) api.PathView {
	return api.PathView{Usable: true, Known: true, Srtt: srtt, Window: 4, Has: true, Next: chunk(100, 10)}
}

// busy is one without room.
func busy(srtt uint64) api.PathView {
	p := free(srtt)
	p.Inflight = p.Window
	return p
}

func backup(p api.PathView) api.PathView { p.Backup = true; return p }

func dead(p api.PathView) api.PathView { p.Usable = false; return p }

// over is a view of these paths, with a Want and much room ahead of the edge.
func over(paths ...api.PathView) api.View {
	return api.View{Has: true, Want: chunk(100, 10), Edge: 1 << 40, Mss: 10, Paths: paths}
}

func without(v api.View) api.View { v.Has = false; return v }

func is(t *testing.T, what string, s *sched.Sched, v api.View, want api.Pick) {
	t.Helper()
	if p, ok := s.Next(v); !ok || p != want {
		t.Errorf("%s: %v %v, want %v", what, p, ok, want)
	}
}

func none(t *testing.T, what string, s *sched.Sched, v api.View) {
	t.Helper()
	if p, ok := s.Next(v); ok || p != (api.Pick{}) {
		t.Errorf("%s: %v %v, want none", what, p, ok)
	}
}

// wants fails unless the path is this one with Want; -1: none.
func wants(t *testing.T, what string, s *sched.Sched, v api.View, path int) {
	t.Helper()
	if path < 0 {
		none(t, what, s, v)
		return
	}
	is(t, what, s, v, api.Pick{Path: path, Off: v.Want.Off, Len: v.Want.Len})
}

func row(t *testing.T, what string, s *sched.Sched, v api.View, paths ...int) {
	t.Helper()
	for _, p := range paths {
		wants(t, what, s, v, p)
	}
}

// times is a path so many times.
func times(n, path int) []int { return slices.Repeat([]int{path}, n) }

// P10.1, example 7: the five kinds, and none below, between or above them.
func TestKinds(t *testing.T) {
	for _, kind := range []int{math.MinInt, -5, -1, 5, 6, 255, 256, 1 << 32, math.MaxInt} {
		if sched.New(kind, nil, nil) != nil || sched.New(kind, []int{1}, []api.Pick{{}}) != nil {
			t.Errorf("there is a kind %d", kind)
		}
	}
	for kind := range 5 {
		s := sched.New(kind, []int{2}, []api.Pick{{Path: 3}})
		if s == nil {
			t.Fatalf("there is no kind %d", kind)
		}
		if left := s.Left(); left != 0 && kind != api.Replay || left != 1 && kind == api.Replay {
			t.Errorf("kind %d has %d left", kind, left)
		}
	}
}

// P10.1: a scheduler that nobody made.
func TestNotGiven(t *testing.T) {
	var nobody *sched.Sched
	for _, s := range []*sched.Sched{nobody, {}, new(sched.Sched), sched.New(5, nil, []api.Pick{{}}), sched.New(-1, nil, nil)} {
		for _, v := range []api.View{{}, three(), over(free(1)), without(three())} {
			none(t, "not given", s, v)
			if s.Left() != 0 {
				t.Errorf("Left: %d", s.Left())
			}
		}
	}
}

// P10.1, P10.3, example 7: weights out of their bounds count as the nearest, missing ones as 1.
func TestWeights(t *testing.T) {
	v := over(free(1), free(1), free(1))
	for _, c := range []struct {
		weights []int
		want    [3]int
	}{
		{nil, [3]int{1, 1, 1}},
		{[]int{}, [3]int{1, 1, 1}},
		{[]int{3}, [3]int{3, 1, 1}},
		{[]int{0, 999}, [3]int{1, 255, 1}},
		{[]int{-1, 2, 1}, [3]int{1, 2, 1}},
		{[]int{1, 254, 255}, [3]int{1, 254, 255}},
		{[]int{256, 257, 2}, [3]int{255, 255, 2}},
		{[]int{math.MinInt, math.MaxInt, 1 << 32}, [3]int{1, 255, 255}},
		{[]int{2, 3, 4, 5, 6}, [3]int{2, 3, 4}},
		{[]int{256 + 3, 1 << 8, -255}, [3]int{255, 255, 1}},
	} {
		s := sched.New(api.RoundRobin, c.weights, nil)
		for range 2 {
			for path, n := range c.want {
				row(t, "weights", s, v, times(n, path)...)
			}
		}
	}
	// The weights beyond the paths that there are are those of paths that come later.
	s := sched.New(api.RoundRobin, []int{1, 1, 3}, nil)
	row(t, "two paths", s, over(free(1), free(1)), 0, 1, 0, 1)
	row(t, "three paths", s, v, 2, 2, 2, 0, 1, 2)
	s = sched.New(api.RoundRobin, []int{1, 1, 1, 1, 1, 1, 1, 2}, nil)
	eight := over(free(1), free(1), free(1), free(1), free(1), free(1), free(1), free(1))
	row(t, "eight paths", s, eight, 0, 1, 2, 3, 4, 5, 6, 7, 7, 0)
}

// 'A path has room': of one path, for all who ask for room.
func TestRoom(t *testing.T) {
	for _, c := range []struct {
		usable           bool
		window, inflight int
		want             bool
	}{
		{true, 1, 0, true},
		{true, 1, 1, false},
		{true, 1, 2, false},
		{true, 1, -1, true},
		{false, 1, 0, false},
		{false, 9, -5, false},
		{true, 0, 0, false},
		{true, 0, -1, false},
		{true, -1, -2, false},
		{true, math.MinInt, math.MinInt, false},
		{true, 256, 255, true},
		{true, 256, 256, false},
		{true, 256, 257, false},
		{true, 257, 256, true},
		{true, 1000, 999, true},
		{true, 1000, 1000, false},
		{true, math.MaxInt, math.MaxInt - 1, true},
		{true, math.MaxInt, math.MaxInt, false},
		{true, 1, math.MinInt, true},
		{true, math.MaxInt, math.MinInt, true},
		{true, 2, math.MaxInt, false},
	} {
		p := free(20)
		p.Usable, p.Window, p.Inflight = c.usable, c.window, c.inflight
		path := -1
		if c.want {
			path = 0
		}
		for _, kind := range deciders {
			wants(t, "room", sched.New(kind, nil, nil), over(p), path)
		}
		if sched.Guard(over(p), filled(), api.Pick{Path: 0, Off: 0, Len: 5}) != c.want {
			t.Errorf("Guard: %+v is not %v", p, c.want)
		}
	}
}

// 'A path is on call': backups only where no other path is usable, with room or not.
func TestOnCall(t *testing.T) {
	for _, c := range []struct {
		what  string
		paths []api.PathView
		want  int
	}{
		{"no path", nil, -1},
		{"one", []api.PathView{free(1)}, 0},
		{"one that is not usable", []api.PathView{dead(free(1))}, -1},
		{"a backup alone", []api.PathView{backup(free(1))}, 0},
		{"a backup alone without room", []api.PathView{backup(busy(1))}, -1},
		{"a backup that is not usable", []api.PathView{backup(dead(free(1)))}, -1},
		{"a backup ahead of another one", []api.PathView{backup(free(1)), free(9)}, 1},
		{"a backup behind another one", []api.PathView{free(9), backup(free(1))}, 0},
		{"a backup beside one without room", []api.PathView{backup(free(1)), busy(9)}, -1},
		{"a backup behind one without room", []api.PathView{busy(9), backup(free(1))}, -1},
		{"a backup beside a dead one", []api.PathView{dead(free(1)), backup(free(9))}, 1},
		{"a backup ahead of a dead one", []api.PathView{backup(free(9)), dead(free(1))}, 0},
		{"two backups", []api.PathView{backup(busy(9)), backup(free(9))}, 1},
		{"a dead backup beside a backup", []api.PathView{backup(dead(free(1))), backup(free(9))}, 1},
		{"all dead", []api.PathView{dead(free(1)), backup(dead(free(1)))}, -1},
		{"the last of eight", []api.PathView{dead(free(1)), backup(free(1)), dead(free(1)), backup(free(1)), dead(busy(1)), backup(free(1)), dead(free(1)), free(9)}, 7},
	} {
		for _, kind := range deciders {
			wants(t, c.what, sched.New(kind, nil, nil), over(c.paths...), c.want)
		}
	}
	// A path without a window takes the backups' place too.
	shut := free(1)
	shut.Window = 0
	for _, kind := range deciders {
		none(t, "one without a window", sched.New(kind, nil, nil), over(shut, backup(free(1))))
	}
}

// 'A path's time', 'the quicker one': the less time, of equal ones the lesser number.
func TestQuicker(t *testing.T) {
	unknown := func(srtt uint64) api.PathView { p := free(srtt); p.Known = false; return p }
	for _, c := range []struct {
		what string
		a, b api.PathView
		want int
	}{
		{"less first", free(19), free(20), 0},
		{"less behind", free(20), free(19), 1},
		{"equal", free(20), free(20), 0},
		{"0 is 1", free(1), free(0), 0},
		{"0 is below 2", free(2), free(0), 1},
		{"above 60000 is 60000", free(60001), free(60000), 0},
		{"the greatest is 60000", free(math.MaxUint64), free(60000), 0},
		{"60000 is above 59999", free(60000), free(59999), 1},
		{"far above 60000", free(1 << 63), free(math.MaxUint64), 0},
		{"not known is 1000", unknown(0), free(1000), 0},
		{"not known is above 999", unknown(0), free(999), 1},
		{"not known is below 1001", free(1001), unknown(math.MaxUint64), 1},
		{"1000 is not known's", free(1000), unknown(1), 0},
		{"both not known", unknown(9), unknown(1), 0},
	} {
		v := over(c.a, c.b)
		wants(t, "MinRtt: "+c.what, sched.New(api.MinRtt, nil, nil), v, c.want)
		wants(t, "Blest: "+c.what, sched.New(api.Blest, nil, nil), v, c.want)
	}
	v := over(free(7), free(5), free(6), free(5), free(9), free(5), free(8), free(6))
	wants(t, "the first of the quickest", sched.New(api.MinRtt, nil, nil), v, 1)
	v.Paths[1].Inflight = 4
	wants(t, "the next of them", sched.New(api.MinRtt, nil, nil), v, 3)
}

// P10.2, example 1.
func TestMinRtt(t *testing.T) {
	s := sched.New(api.MinRtt, nil, nil)
	v := three()
	is(t, "the quickest with room", s, v, api.Pick{Path: 1, Off: 100, Len: 10})
	none(t, "no Want", s, without(v))
	v.Paths[0].Inflight, v.Paths[0].Srtt = 1, 19
	is(t, "another one", s, v, api.Pick{Path: 0, Off: 100, Len: 10})
	v = three()
	v.Paths[1].Inflight = 4
	none(t, "a backup is not on call", s, v)
	v.Paths[0].Usable, v.Paths[1].Usable = false, false
	is(t, "a backup", s, v, api.Pick{Path: 2, Off: 100, Len: 10})
	v.Has = false
	none(t, "no Want", s, v)
	v = over(free(1))
	v.Paths[0].Has = false
	v.Want = api.Chunk{Off: math.MaxUint64, Fin: true}
	is(t, "the end, at any offset", s, v, api.Pick{Path: 0, Off: math.MaxUint64})
	v.Edge, v.Mss = 0, math.MinInt
	is(t, "edge and Mss play no part", s, v, api.Pick{Path: 0, Off: math.MaxUint64})
}

// P10.3, example 2.
func TestRoundRobin(t *testing.T) {
	s := sched.New(api.RoundRobin, []int{3, 2}, nil)
	row(t, "path 0 has no room", s, three(), 1, 1, 1, 1, 1)
	v := three()
	v.Paths[0].Inflight = 0
	s = sched.New(api.RoundRobin, []int{3, 2}, nil)
	row(t, "room on path 0", s, v, 0, 0, 0, 1, 1, 0, 0, 0, 1, 1, 0)
	v.Want = api.Chunk{Off: 7, Fin: true}
	is(t, "the end", s, v, api.Pick{Path: 0, Off: 7})
}

// P10.3: the turn stays where there is no decision.
func TestTurnStays(t *testing.T) {
	v := over(free(1), free(1), free(1))
	for _, other := range []api.View{{}, without(v), over(), over(busy(1), busy(1), busy(1)), over(dead(free(1))), over(busy(1), backup(free(1)))} {
		s := sched.New(api.RoundRobin, []int{2, 3}, nil)
		none(t, "at first", s, other)
		row(t, "at first", s, v, 0)
		none(t, "amid a turn", s, other)
		row(t, "amid a turn", s, v, 0)
		none(t, "none left", s, other)
		row(t, "none left", s, v, 1, 1)
		none(t, "amid path 1's", s, other)
		row(t, "amid path 1's", s, v, 1, 2, 0, 0, 1)
	}
}

// P10.3: a path that can't take its turn loses what it had left; it has its whole weight when the turn comes again.
func TestTurnGoesOn(t *testing.T) {
	all := over(free(1), free(1), free(1))
	for _, other := range []api.PathView{busy(1), dead(free(1)), backup(free(1))} {
		s := sched.New(api.RoundRobin, []int{3, 2, 1}, nil)
		row(t, "one chunk", s, all, 0)
		v := over(other, free(1), free(1))
		row(t, "path 0 can't", s, v, 1)
		row(t, "path 0 can again", s, all, 1, 2, 0, 0, 0, 1)
	}
	// A turn with none left goes on from there, and comes back to the same path if it is alone.
	s := sched.New(api.RoundRobin, []int{2, 2}, nil)
	row(t, "alone", s, over(busy(1), free(1), busy(1)), 1, 1, 1, 1, 1)
	row(t, "with one left", s, over(free(1), free(1), busy(1)), 1, 0, 0, 1, 1, 0)
}

// P10.3: a turn at a path that is not there any more goes to 0; one with none left at the last path goes to a path that has come behind it.
func TestTurnNotThere(t *testing.T) {
	s := sched.New(api.RoundRobin, []int{2, 1, 3}, nil)
	row(t, "three", s, over(free(1), free(1), free(1)), 0, 0, 1, 2)
	row(t, "two", s, over(free(1), free(1)), 0, 0, 1, 0)
	s = sched.New(api.RoundRobin, []int{2, 1, 3}, nil)
	row(t, "three", s, over(free(1), free(1), free(1)), 0, 0, 1, 2)
	none(t, "none", s, over())
	row(t, "as it was", s, over(free(1), free(1), free(1)), 2, 2, 0)
	s = sched.New(api.RoundRobin, nil, nil)
	row(t, "the last of eight", s, over(busy(1), busy(1), busy(1), busy(1), busy(1), busy(1), busy(1), free(1)), 7, 7)
	row(t, "one", s, over(free(1)), 0, 0)
	row(t, "more behind it", s, over(free(1), free(1), free(1)), 1, 2, 0)
	s = sched.New(api.RoundRobin, []int{1, 1, 2}, nil)
	row(t, "path 1 with none left", s, over(free(1), free(1)), 0, 1)
	row(t, "path 2 has come", s, over(free(1), free(1), free(1)), 2, 2, 0)
	s = sched.New(api.RoundRobin, []int{1, 1, 2}, nil)
	row(t, "path 2 with one left", s, over(free(1), free(1), free(1)), 0, 1, 2)
	row(t, "path 2 is not there, path 0 has no room", s, over(busy(1), free(1)), 1)
}

// P10.4, example 3.
func TestRedundant(t *testing.T) {
	s := sched.New(api.Redundant, nil, nil)
	v := three()
	is(t, "P", s, v, api.Pick{Path: 1, Off: 90, Len: 10})
	v.Paths[0].Inflight = 1
	is(t, "room on path 0", s, v, api.Pick{Path: 1, Off: 90, Len: 10})
	is(t, "Want plays no part", s, without(v), api.Pick{Path: 1, Off: 90, Len: 10})
	v.Paths[0].Next = chunk(90, 7)
	is(t, "equal: the lesser number, with its own Next", s, v, api.Pick{Path: 0, Off: 90, Len: 7})
	v.Paths[0].Next = chunk(89, 0)
	is(t, "the least, of no bytes", s, v, api.Pick{Path: 0, Off: 89})
	v.Paths[0].Has = false
	is(t, "path 0 has no Next", s, v, api.Pick{Path: 1, Off: 90, Len: 10})
	v.Paths[1].Has = false
	none(t, "nobody on call has one", s, v)
	v.Paths[0].Usable, v.Paths[1].Usable = false, false
	is(t, "the backup", s, v, api.Pick{Path: 2, Off: 80, Len: 10})
	v.Paths[2].Inflight = 9
	none(t, "without room", s, v)
	none(t, "no path", s, over())
	far := over(free(1), free(1), free(1))
	far.Paths[0].Next, far.Paths[1].Next, far.Paths[2].Next = chunk(math.MaxUint64, 1), chunk(1<<63, 2), chunk(1<<63, 3)
	is(t, "offsets at the end of their type", s, far, api.Pick{Path: 1, Off: 1 << 63, Len: 2})
}

// P10.5, example 4.
func TestBlest(t *testing.T) {
	s := sched.New(api.Blest, nil, nil)
	v := three()
	is(t, "the quickest has room", s, v, api.Pick{Path: 1, Off: 100, Len: 10})
	v.Edge = 0
	is(t, "whatever the edge", s, v, api.Pick{Path: 1, Off: 100, Len: 10})
	v = three()
	v.Paths[1].Inflight, v.Paths[0].Inflight = 4, 1
	is(t, "the slower one", s, v, api.Pick{Path: 0, Off: 100, Len: 10})
	none(t, "no Want", s, without(v))
	v.Edge = 260
	none(t, "X is 150, R is 140", s, v)
	v.Edge = 270
	is(t, "X is R", s, v, api.Pick{Path: 0, Off: 100, Len: 10})
	v.Edge = 269
	none(t, "X is R + 1", s, v)
	v.Paths[0].Inflight = 2
	none(t, "nobody has room", s, v)
	v.Paths[0].Inflight, v.Paths[1].Window, v.Paths[1].Inflight = 1, 0, 0
	is(t, "no window: path 0 is the quickest", s, v, api.Pick{Path: 0, Off: 100, Len: 10})
	v.Paths[0].Window = 0
	none(t, "no window at all", s, v)
	none(t, "no path", s, over())
}

// P10.5: which two paths are held against each other.
func TestBlestPaths(t *testing.T) {
	s := sched.New(api.Blest, nil, nil)
	wants(t, "the quickest of those with room", s, over(free(50), busy(10), free(30), free(30)), 2)
	wants(t, "a dead one is not the quickest", s, over(dead(busy(1)), free(50)), 1)
	wants(t, "a backup is not the quickest", s, over(backup(busy(1)), free(50)), 1)
	wants(t, "equal times", s, over(busy(20), free(20)), 1)
	// It is the quickest one's window that counts, not one of others without room.
	v := over(busy(40), busy(20), free(50))
	v.Paths[0].Window, v.Paths[0].Inflight = 200, 200
	v.Edge = 100 + 150 + 10
	wants(t, "the quickest one's window", s, v, 2)
	v.Edge--
	wants(t, "the quickest one's window", s, v, -1)
}

// P10.5: the bounds of what is reckoned with, each just at and just beyond what it lets pass.
func TestBlestBounds(t *testing.T) {
	for _, c := range []struct {
		what                     string
		mss, window, inflight    int
		fast, slow, bytesNeeded  uint64
		fastUnknown, slowUnknown bool
	}{
		{"example", 10, 4, 1, 20, 50, 150 + 20, false, false},
		{"n is 1", 10, 4, 0, 20, 20, 40 + 10, false, false},
		{"n is 2, just", 10, 4, 0, 20, 40, 90 + 10, false, false},
		{"n is 3, rounded up", 10, 4, 0, 20, 41, 150 + 10, false, false},
		{"X rounded down", 1, 1, 0, 20, 20, 1 + 1, false, false},
		{"n is 2", 1, 1, 0, 1, 2, 3 + 1, false, false},
		{"Mss 0 is 1", 0, 4, 1, 20, 50, 15 + 2, false, false},
		{"Mss below 0 is 1", math.MinInt, 4, 1, 20, 50, 15 + 2, false, false},
		{"Mss 1024", 1024, 4, 1, 20, 50, 15*1024 + 2*1024, false, false},
		{"Mss above 1024 is 1024", 1025, 4, 1, 20, 50, 15*1024 + 2*1024, false, false},
		{"any Mss", math.MaxInt, 4, 1, 20, 50, 15*1024 + 2*1024, false, false},
		{"Window 256", 10, 256, 1, 20, 50, 7710 + 20, false, false},
		{"Window above 256 is 256", 10, 257, 1, 20, 50, 7710 + 20, false, false},
		{"any Window", 10, math.MaxInt, 1, 20, 50, 7710 + 20, false, false},
		{"Inflight below 0 is 0", 10, 4, -1, 20, 50, 150 + 10, false, false},
		{"any Inflight below 0", 10, 4, math.MinInt, 20, 50, 150 + 10, false, false},
		{"Inflight 256", 10, 4, 256, 20, 50, 150 + 2570, false, false},
		{"Inflight above 256 is 256", 10, 4, 257, 20, 50, 150 + 2570, false, false},
		{"any Inflight", 10, 4, math.MaxInt - 1, 20, 50, 150 + 2570, false, false},
		{"times at their bounds", 1024, 256, 0, 0, 60001, 1024*(512+59999)*30000 + 1024, false, false},
		{"times beyond their bounds", 1024, 256, 256, 1, math.MaxUint64, 1024*(512+59999)*30000 + 1024*257, false, false},
		{"the fast one's is not known", 10, 4, 0, 5, 2500, 150 + 10, true, false},
		{"the slow one's is not known", 10, 4, 0, 400, 5, 150 + 10, false, true},
	} {
		s := sched.New(api.Blest, nil, nil)
		f, g := free(c.fast), free(c.slow)
		f.Window, f.Inflight, f.Known = c.window, c.window, !c.fastUnknown
		g.Window, g.Inflight, g.Known = math.MaxInt, c.inflight, !c.slowUnknown
		v := over(f, g)
		v.Mss = c.mss
		for _, off := range []uint64{0, 100, math.MaxUint64 - c.bytesNeeded} {
			v.Want = chunk(off, 10)
			v.Edge = off + c.bytesNeeded
			wants(t, c.what, s, v, 1)
			v.Edge--
			wants(t, c.what, s, v, -1)
		}
	}
}

// P10.5: no room ahead of the edge, or a Want beyond it, is R below 0; an edge of any size is enough.
func TestBlestEdge(t *testing.T) {
	s := sched.New(api.Blest, nil, nil)
	for _, c := range []struct {
		off, edge uint64
		want      int
	}{
		{100, 100, -1},
		{100, 99, -1},
		{100, 0, -1},
		{math.MaxUint64, 0, -1},
		{math.MaxUint64, math.MaxUint64, -1},
		{1 << 63, 1, -1},
		{1, 1 << 63, 1},
		{0, math.MaxUint64, 1},
		{0, 1 << 63, 1},
		{math.MaxUint64 - 180, math.MaxUint64, 1},
		{math.MaxUint64 - 100, math.MaxUint64, -1},
	} {
		v := over(busy(20), free(50))
		v.Want, v.Edge = chunk(c.off, 10), c.edge
		wants(t, "edge", s, v, c.want)
	}
}

// P10.6, example 5.
func TestReplay(t *testing.T) {
	s := sched.New(api.Replay, []int{9}, []api.Pick{{Path: 5, Off: 1, Len: 2}, {Len: -1}, {Path: -1, Off: 9, Len: 9}})
	left := func(want int) {
		t.Helper()
		if s.Left() != want || s.Left() != want {
			t.Errorf("Left is %d, want %d", s.Left(), want)
		}
	}
	left(3)
	is(t, "first", s, three(), api.Pick{Path: 5, Off: 1, Len: 2})
	left(2)
	none(t, "below 0", s, three())
	left(1)
	is(t, "third", s, api.View{}, api.Pick{Path: -1, Off: 9, Len: 9})
	left(0)
	none(t, "behind the last one", s, three())
	left(0)
	none(t, "still", s, three())
	left(0)
	for _, empty := range [][]api.Pick{nil, {}} {
		s = sched.New(api.Replay, nil, empty)
		left(0)
		none(t, "empty", s, three())
		left(0)
	}
	s = sched.New(api.Replay, nil, []api.Pick{{}, {Path: 7, Off: 3}, {Path: math.MinInt, Off: math.MaxUint64, Len: math.MaxInt}, {Path: 1, Off: 2, Len: math.MinInt}})
	is(t, "all 0 is a decision", s, over(), api.Pick{})
	is(t, "Len 0", s, without(three()), api.Pick{Path: 7, Off: 3})
	is(t, "the ends of the types", s, three(), api.Pick{Path: math.MinInt, Off: math.MaxUint64, Len: math.MaxInt})
	left(1)
	none(t, "the lowest Len", s, three())
	left(0)
}

// P10.6: Left is 0 of the other kinds, whatever list they were given.
func TestLeftOfOthers(t *testing.T) {
	for _, kind := range deciders {
		s := sched.New(kind, nil, []api.Pick{{Path: 5, Off: 5, Len: 5}, {}})
		for range 3 {
			if s.Left() != 0 {
				t.Errorf("kind %d has %d left", kind, s.Left())
			}
			wants(t, "not the list's", s, over(free(1)), 0)
		}
	}
}

// P10.8: with one path that is usable the four give the same decisions.
func TestOnePath(t *testing.T) {
	d := dice(8)
	for range 20000 {
		v := someView(&d)
		if len(v.Paths) == 0 {
			continue
		}
		path := int(d.below(uint64(len(v.Paths))))
		for i := range v.Paths {
			v.Paths[i].Usable = i == path
		}
		v.Paths[path].Has, v.Paths[path].Next = v.Has, v.Want
		want := -1
		if v.Has && room(v.Paths[path]) {
			want = path
		}
		for _, kind := range deciders {
			wants(t, "one path", sched.New(kind, someWeights(&d), nil), v, want)
		}
	}
}

// P10.9: MinRtt, Redundant and Blest hang on the view alone, Replay on how often it was asked.
func TestWhatItHangsOn(t *testing.T) {
	d := dice(9)
	list := somePicks(&d, 500)
	asked := sched.New(api.Replay, nil, list)
	for _, kind := range []int{api.MinRtt, api.Redundant, api.Blest} {
		old := sched.New(kind, nil, nil)
		for range 3000 {
			v := someView(&d)
			p, ok := old.Next(v)
			q, same := sched.New(kind, someWeights(&d), somePicks(&d, 3)).Next(v)
			if p != q || ok != same {
				t.Fatalf("kind %d: %v %v behind others, %v %v alone", kind, p, ok, q, same)
			}
		}
	}
	for _, want := range list {
		if want.Len < 0 {
			none(t, "asked", asked, someView(&d))
		} else {
			is(t, "asked", asked, someView(&d), want)
		}
	}
}

// P10.10: while all paths on call have room each has its weight, one behind the other.
func TestFair(t *testing.T) {
	d := dice(10)
	for range 300 {
		var v api.View
		var order []int
		weights := someWeights(&d)
		for i := range 1 + int(d.below(8)) {
			p := free(d.below(9))
			p.Usable = i == 0 || !d.one(3)
			v.Paths = append(v.Paths, p)
			if p.Usable {
				n := 1
				if i < len(weights) {
					n = min(max(weights[i], 1), 255)
				}
				order = append(order, times(n, i)...)
			}
		}
		v.Has, v.Want = true, chunk(5, 5)
		s := sched.New(api.RoundRobin, weights, nil)
		for range 2 {
			row(t, "fair", s, v, order...)
		}
	}
}

// P10.11, rules 0.3 and 0.4: what was handed in may be written to, and two schedulers know nothing of one another.
func TestMemory(t *testing.T) {
	weights, list := []int{2, 1, 9, 9}, []api.Pick{{Path: 1, Off: 1, Len: 1}, {Path: 2, Off: 2, Len: 2}, {Path: 9}}
	robin, other := sched.New(api.RoundRobin, weights[:2], nil), sched.New(api.RoundRobin, weights[:2], nil)
	replay, second := sched.New(api.Replay, nil, list[:2]), sched.New(api.Replay, nil, list[:2])
	if !slices.Equal(weights, []int{2, 1, 9, 9}) || !slices.Equal(list, []api.Pick{{Path: 1, Off: 1, Len: 1}, {Path: 2, Off: 2, Len: 2}, {Path: 9}}) {
		t.Errorf("handed in and changed: %v %v", weights, list)
	}
	for i := range weights {
		weights[i] = 7
	}
	for i := range list {
		list[i] = api.Pick{Path: 6, Off: 6, Len: -6}
	}
	v := over(free(1), free(1), free(1))
	row(t, "weights written to", robin, v, 0, 0, 1, 2, 0)
	row(t, "another one", other, v, 0, 0, 1, 2)
	row(t, "goes on", robin, v, 0, 1)
	is(t, "list written to", replay, v, api.Pick{Path: 1, Off: 1, Len: 1})
	is(t, "another one", second, v, api.Pick{Path: 1, Off: 1, Len: 1})
	is(t, "goes on", replay, v, api.Pick{Path: 2, Off: 2, Len: 2})
	none(t, "no more than the list", replay, v)
	if replay.Left() != 0 || second.Left() != 1 {
		t.Errorf("Left: %d %d", replay.Left(), second.Left())
	}
}

// P10.11: a view is neither changed, its spare room neither, nor kept.
func TestViewIsNotKept(t *testing.T) {
	for kind := range 5 {
		s := sched.New(kind, nil, []api.Pick{{Path: 1}, {Path: 1}})
		paths := make([]api.PathView, 4)
		copy(paths, three().Paths)
		paths[3] = free(1)
		v := three()
		v.Paths = paths[:3]
		v.Want.On = []int{4}
		before, spare := cloned(v), paths[3]
		p, ok := s.Next(v)
		if !reflect.DeepEqual(v, before) || !reflect.DeepEqual(paths[3], spare) {
			t.Errorf("kind %d has changed the view", kind)
		}
		clear(paths)
		q, same := sched.New(kind, nil, []api.Pick{{Path: 1}}).Next(before)
		if p != q || ok != same {
			t.Errorf("kind %d: %v, then %v", kind, p, q)
		}
		if kind != api.Replay {
			none(t, "written to", s, v)
			r, ok := s.Next(before)
			if r != p || !ok {
				t.Errorf("kind %d: %v behind a view that was written to, not %v", kind, r, p)
			}
		}
	}
}
