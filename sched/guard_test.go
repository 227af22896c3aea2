package sched_test

import (
	"math"
	"reflect"
	"testing"

	"braid/api"
	"braid/sched"
	"braid/sendbuf"
)

// filled is a buffer with chunks of 5 bytes at 0, 5 and 10, of which the last one reaches beyond the edge.
func filled() *sendbuf.Buffer {
	b := sendbuf.New(0, 20, 5, 14)
	b.Write([]byte("abcdefghijklmno"))
	return b
}

// lets fails unless the guard says this, and the buffer and the view are as they were.
func lets(t *testing.T, what string, v api.View, b *sendbuf.Buffer, p api.Pick, want bool) {
	t.Helper()
	chunks, high, before := b.Chunks(), b.High(), cloned(v)
	if sched.Guard(v, b, p) != want || sched.Guard(v, b, p) != want {
		t.Errorf("%s: %v is not %v", what, p, want)
	}
	if !reflect.DeepEqual(b.Chunks(), chunks) || b.High() != high || !reflect.DeepEqual(v, before) {
		t.Errorf("%s: %v has changed something", what, p)
	}
	if sched.Guard(v, nil, p) {
		t.Errorf("%s: %v passes without a buffer", what, p)
	}
}

// P10.7, example 6: the path is there and has room, backup or not.
func TestGuardPath(t *testing.T) {
	v := three()
	for path, want := range []bool{false, true, true, false, false, false} {
		lets(t, "path", v, filled(), api.Pick{Path: path, Len: 5}, want)
	}
	for _, path := range []int{-1, -8, 3, 7, 8, 9, 255, 256, 257, 1 << 32, 1<<32 + 1, math.MaxInt, math.MinInt} {
		lets(t, "no path", v, filled(), api.Pick{Path: path, Len: 5}, false)
		lets(t, "no view", api.View{}, filled(), api.Pick{Path: path, Len: 5}, false)
	}
	lets(t, "example 6", v, filled(), api.Pick{Path: 5, Off: 1, Len: 2}, false)
	lets(t, "no path at all", over(), filled(), api.Pick{Len: 5}, false)
	v.Paths[1].Usable = false
	lets(t, "not usable", v, filled(), api.Pick{Path: 1, Len: 5}, false)
	v.Paths[0].Inflight = 1
	lets(t, "room again", v, filled(), api.Pick{Path: 0, Len: 5}, true)
	// What makes a scheduler decide, and where the quickest path is, plays no part.
	v = without(over(free(1), free(9)))
	v.Edge, v.Paths[1].Has = 0, false
	lets(t, "no Want, no Next", v, filled(), api.Pick{Path: 1, Len: 5}, true)
}

// P10.7: a view may have more paths than a connection: sendbuf has none of them.
func TestGuardManyPaths(t *testing.T) {
	var paths []api.PathView
	for range 12 {
		paths = append(paths, free(1))
	}
	for path := range 13 {
		lets(t, "many", over(paths...), filled(), api.Pick{Path: path, Len: 5}, path < 8)
	}
}

// P10.7: just this chunk, and it may go out on this path.
func TestGuardChunk(t *testing.T) {
	v := over(free(1), free(1))
	for _, c := range []struct {
		what string
		off  uint64
		n    int
		want bool
	}{
		{"the first", 0, 5, true},
		{"the second", 5, 5, true},
		{"beyond the edge", 10, 5, false},
		{"a part of it", 0, 4, false},
		{"two of them", 0, 10, false},
		{"no bytes", 0, 0, false},
		{"Len below 0", 0, -1, false},
		{"the lowest Len", 0, math.MinInt, false},
		{"the greatest Len", 0, math.MaxInt, false},
		{"amid it", 1, 4, false},
		{"one more", 1, 5, false},
		{"behind all", 15, 0, false},
		{"far", math.MaxUint64, 5, false},
	} {
		lets(t, c.what, v, filled(), api.Pick{Path: 0, Off: c.off, Len: c.n}, c.want)
	}
	b := filled()
	b.Sent(0, 0)
	lets(t, "under way on this path", v, b, api.Pick{Path: 0, Len: 5}, false)
	lets(t, "under way on another one", v, b, api.Pick{Path: 1, Len: 5}, true)
	b.Held(0, 0)
	lets(t, "held", v, b, api.Pick{Path: 1, Len: 5}, false)
	b.Ack(5, 15)
	lets(t, "no more", v, b, api.Pick{Path: 1, Len: 5}, false)
	lets(t, "the edge has come", v, b, api.Pick{Path: 1, Off: 10, Len: 5}, true)
}

// P10.7: the end is a chunk of no bytes, as soon as it may go out.
func TestGuardEnd(t *testing.T) {
	v := over(free(1), free(1))
	b := sendbuf.New(0, 20, 5, 14)
	b.Write([]byte("abc"))
	end := api.Pick{Path: 1, Off: 3}
	lets(t, "not closed", v, b, end, false)
	b.Close()
	lets(t, "ahead of the bytes", v, b, end, false)
	b.Sent(0, 0)
	lets(t, "behind them", v, b, end, true)
	v.Paths[1] = busy(1)
	lets(t, "without room", v, b, end, false)
}

// P10.7: whatever Replay says, what passes is what may be sent.
func TestGuardAfterReplay(t *testing.T) {
	d := dice(7)
	passed := 0
	for range 20000 {
		b, v := filled(), someView(&d)
		for range d.below(4) {
			b.Sent(int(d.below(8)), 5*d.below(3))
		}
		p := api.Pick{Path: int(d.below(12)) - 2, Off: d.offset(0, 5, 5, 10, 1), Len: d.oneOf(5, 5, 5, 4, 0, -1)}
		q, ok := sched.New(api.Replay, nil, []api.Pick{p}).Next(v)
		want := p.Path >= 0 && p.Path < len(v.Paths) && room(v.Paths[p.Path]) && b.May(p.Path, p.Off, p.Len)
		if ok != (p.Len >= 0) || ok && q != p {
			t.Fatalf("Replay of %v: %v %v", p, q, ok)
		}
		lets(t, "replayed", v, b, p, want)
		if want {
			passed++
		}
	}
	if passed < 500 {
		t.Errorf("only %d have passed", passed)
	}
}
