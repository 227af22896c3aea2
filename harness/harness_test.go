package harness_test

import (
	"bytes"
	"math"
	"reflect"
	"testing"

	"braid/api"
	"braid/conn"
	"braid/gobackn"
	"braid/harness"
	"braid/wire"
)

// config is the configuration of most tests: two paths, chunks of four bytes, bags of three frames.
func config() api.Config {
	return api.Config{Paths: 2, Mss: 4, SendBuf: 20, RecvBuf: 20, Gaps: 4, Retries: 1, Bag: 3, Keys: [2]uint64{7, 9}, Base: [2]uint64{0, 1000}}
}

func with(change func(c *api.Config)) api.Config {
	c := config()
	change(&c)
	return c
}

func open(t *testing.T, c api.Config, steps ...api.Step) *harness.World {
	t.Helper()
	w, bad := harness.New(c)
	if bad != api.OK || w == nil {
		t.Fatalf("New(%+v): %v", c, bad)
	}
	for _, s := range steps {
		w.Do(s)
	}
	return w
}

// Short words for steps.

func write(side int, text string) api.Step {
	return api.Step{Kind: api.StepWrite, Side: side, Data: []byte(text)}
}

func read(side, n int) api.Step { return api.Step{Kind: api.StepRead, Side: side, N: n} }

func tick(side, ms int) api.Step { return api.Step{Kind: api.StepTick, Side: side, N: ms} }

func deliver(side, path, n int) api.Step {
	return api.Step{Kind: api.StepDeliver, Side: side, Path: path, N: n}
}

func spoil(side, path, n, at int, mask byte) api.Step {
	return api.Step{Kind: api.StepSpoil, Side: side, Path: path, N: n, At: at, Mask: mask}
}

func onPath(kind, path int) api.Step { return api.Step{Kind: kind, Path: path} }

func flush(path int) api.Step { return onPath(api.StepFlush, path) }

func atSide(kind, side int) api.Step { return api.Step{Kind: kind, Side: side} }

func joins(kind, side, path int, on bool) api.Step {
	return api.Step{Kind: kind, Side: side, Path: path, On: on}
}

// look is all that can be asked of a world.
type look struct {
	trace  []api.Entry
	log    []api.Event
	stats  [2]api.Stat
	bags   [2][api.MaxPaths][]api.Parcel
	forged int
}

func lookAt(w *harness.World) look {
	l := look{trace: w.Trace(), log: w.Log(), stats: [2]api.Stat{w.Stat(0), w.Stat(1)}, forged: w.Forged()}
	for side := range 2 {
		for path := range l.bags[side] {
			l.bags[side][path] = w.Bag(side, path)
		}
	}
	return l
}

func frameOf(t *testing.T, b []byte) api.Frame {
	t.Helper()
	f, bad := wire.Decode(b)
	if bad != api.OK {
		t.Fatalf("%x: %v", b, bad)
	}
	return f
}

// offs is the offsets of the DATA in a bag.
func offs(t *testing.T, w *harness.World, side, path int) []uint64 {
	t.Helper()
	l := []uint64{}
	for _, p := range w.Bag(side, path) {
		if p.Spoilt {
			t.Fatal("a spoilt frame")
		}
		l = append(l, frameOf(t, p.Bytes).Off)
	}
	return l
}

// P15.1: what conn.Fit refuses is refused, at each bound; of all else there is a world.
func TestNewRefuses(t *testing.T) {
	for i, change := range []func(c *api.Config){
		func(c *api.Config) { *c = api.Config{} },
		func(c *api.Config) { c.Paths = 0 }, func(c *api.Config) { c.Paths = 9 }, func(c *api.Config) { c.Paths = math.MinInt },
		func(c *api.Config) { c.Mss = 0 }, func(c *api.Config) { c.Mss = 21 }, func(c *api.Config) { c.Mss = 1025; c.RecvBuf = 5000 },
		func(c *api.Config) { c.SendBuf = 0 }, func(c *api.Config) { c.SendBuf = 65537 },
		func(c *api.Config) { c.RecvBuf = 3 }, func(c *api.Config) { c.RecvBuf = 65537 },
		func(c *api.Config) { c.Gaps = 0 }, func(c *api.Config) { c.Gaps = 65 },
		func(c *api.Config) { c.Retries = 0 }, func(c *api.Config) { c.Retries = 17 },
		func(c *api.Config) { c.Bag = 0 }, func(c *api.Config) { c.Bag = api.MaxBag + 1 }, func(c *api.Config) { c.Bag = math.MaxInt },
		func(c *api.Config) { c.Sched = -1 }, func(c *api.Config) { c.Sched = 6 },
		func(c *api.Config) { c.Weights = []int{0} }, func(c *api.Config) { c.Weights = []int{1, 256} }, func(c *api.Config) { c.Weights = []int{1, 1, 1} },
		func(c *api.Config) { c.Base[0] = api.MaxOff + 1 }, func(c *api.Config) { c.Base[1] = api.MaxOff + 1 },
	} {
		c := with(change)
		if w, bad := harness.New(c); w != nil || bad != api.ErrConfig {
			t.Errorf("%d: New: %v %v", i, w, bad)
		}
		c.Sched = api.Single
		if w, bad := harness.New(c); i != 18 && i != 19 && (w != nil || bad != api.ErrConfig) {
			t.Errorf("%d: New, single: %v %v", i, w, bad)
		}
		if r := harness.Run(api.Script{Config: with(change), Steps: []api.Step{write(0, "x")}}); !reflect.DeepEqual(r, api.Report{Err: api.ErrConfig}) {
			t.Errorf("%d: Run: %+v", i, r)
		}
	}
}

// P15.1: the sides are gobackn's or conn's, and nothing has happened.
func TestNewIsEmpty(t *testing.T) {
	for sched := range api.NumScheds {
		c := with(func(c *api.Config) { c.Sched, c.Paths, c.Bag = sched, 8, api.MaxBag })
		w := open(t, c)
		l := lookAt(w)
		for side := range 2 {
			var want api.Stat
			if sched == api.Single {
				e, _ := gobackn.New(c, side)
				want = e.Stat()
			} else {
				e, _ := conn.New(c, side)
				want = e.Stat()
			}
			if !reflect.DeepEqual(l.stats[side], want) {
				t.Errorf("scheduler %d, side %d: %+v", sched, side, l.stats[side])
			}
			for path, bag := range l.bags[side] {
				if len(bag) != 0 {
					t.Errorf("scheduler %d: something lies on path %d", sched, path)
				}
			}
		}
		if len(l.trace) != 0 || len(l.log) != 0 || l.forged != 0 {
			t.Errorf("scheduler %d: %+v", sched, l)
		}
	}
}

// P15.1: there are as many paths as the configuration has, and a bag holds Bag frames.
func TestPathsAndBags(t *testing.T) {
	for paths := 1; paths <= 8; paths++ {
		w := open(t, with(func(c *api.Config) { c.Paths, c.Bag = paths, paths }))
		for p := range 10 {
			w.Do(joins(api.StepJoin, 0, p, false))
			want := 0
			if p > 0 && p < paths {
				want = 1
			}
			if n := len(w.Bag(0, p)); n != want {
				t.Errorf("%d paths: %d frames on path %d", paths, n, p)
			}
		}
	}
	for _, bag := range []int{1, 2, 5} {
		w := open(t, with(func(c *api.Config) { c.Bag = bag }), write(0, "abcdefghijklmnopqrst"))
		if n := len(w.Bag(0, 0)); n != bag {
			t.Errorf("a bag of %d holds %d", bag, n)
		}
	}
}

// What New did not give has nothing in it, and nothing can be done with it.
func TestNotGiven(t *testing.T) {
	for _, w := range []*harness.World{nil, {}} {
		for kind := range api.NumSteps {
			w.Do(api.Step{Kind: kind, Data: []byte("x")})
		}
		if len(w.Trace()) != 0 || len(w.Log()) != 0 || len(w.Bag(0, 0)) != 0 || w.Forged() != 0 || !reflect.DeepEqual(w.Stat(1), api.Stat{}) {
			t.Error("something is there")
		}
	}
}

// busy is a world in which frames lie in all four bags, one of them spoilt, and bytes can be read.
func busy(t *testing.T, change func(c *api.Config)) *harness.World {
	t.Helper()
	c := with(func(c *api.Config) { c.Bag = 50; change(c) })
	w := open(t, c,
		joins(api.StepJoin, 0, 1, false), flush(1),
		write(0, "abcdefgh"), write(1, "ABCDEFGH"), flush(0),
		write(0, "ijklmnop"), write(1, "IJKLMNOP"), deliver(0, 0, 0),
		joins(api.StepPrio, 0, 1, true), joins(api.StepPrio, 1, 1, true), spoil(1, 0, 0, 3, 5),
	)
	return w
}

// P15.2: of a kind that is none nothing is done, whatever the other fields are.
func TestNoSuchKind(t *testing.T) {
	w := busy(t, func(c *api.Config) {})
	before := lookAt(w)
	for _, kind := range []int{0, -1, 16, 17, 99, 256 + api.StepAbort, math.MaxInt, math.MinInt} {
		for _, side := range []int{0, 1, -1, 7} {
			w.Do(api.Step{Kind: kind, Side: side, N: 1, At: 1, Mask: 1, On: true, Data: []byte("xyz")})
			w.Do(api.Step{Kind: kind, Side: side, Path: 1})
		}
	}
	if !reflect.DeepEqual(lookAt(w), before) {
		t.Error("something happened")
	}
}

// P15.2: of a path that is not there nothing is done.
func TestNoSuchPath(t *testing.T) {
	for _, sched := range []int{api.MinRtt, api.Single} {
		w := busy(t, func(c *api.Config) { c.Sched = sched })
		before := lookAt(w)
		for kind := api.StepDeliver; kind < api.NumSteps; kind++ {
			for _, path := range []int{2, 3, 7, 8, 256, -1, -2, math.MaxInt, math.MinInt} {
				for side := range 2 {
					w.Do(api.Step{Kind: kind, Side: side, Path: path, N: 1, At: 1, Mask: 1, On: true, Data: []byte("xyz")})
				}
			}
		}
		if !reflect.DeepEqual(lookAt(w), before) {
			t.Error("something happened")
		}
	}
}

// P15.2: a step that has no path is done whatever its Path is, and one that has no place whatever its N is.
func TestFieldsOfOtherKinds(t *testing.T) {
	odd := func(s api.Step) api.Step {
		s.Path, s.At, s.Mask, s.On = -5, 77, 1, true
		if s.Kind != api.StepRead && s.Kind != api.StepTick {
			s.N = -9
		}
		if s.Kind != api.StepWrite {
			s.Data = []byte("zz")
		}
		return s
	}
	steps := []api.Step{write(0, "abc"), read(1, 5), tick(0, 999), atSide(api.StepClose, 0), tick(0, 1), atSide(api.StepAbort, 1)}
	w, v := open(t, config(), steps...), open(t, config())
	for _, s := range steps {
		v.Do(odd(s))
	}
	if !reflect.DeepEqual(lookAt(v), lookAt(w)) {
		t.Errorf("%+v, want %+v", lookAt(v), lookAt(w))
	}
	// down, up and flush have no side; down and up no place.
	for _, side := range []int{0, 1, -1} {
		w := open(t, config(), write(0, "abc"), api.Step{Kind: api.StepDown, Side: side, N: 5}, flush(0))
		if len(w.Bag(0, 0)) != 1 {
			t.Error("down: heard")
		}
		w.Do(api.Step{Kind: api.StepUp, Side: side, N: 5, On: false})
		w.Do(api.Step{Kind: api.StepFlush, Side: side, N: 5})
		if len(w.Bag(0, 0)) != 0 || w.Stat(1).Next != 3 {
			t.Error("up: not heard")
		}
	}
}

// P15.2, P15.3, P15.4: a side is the lowest bit of its number, in each kind of step, in Stat and in Bag.
func TestSides(t *testing.T) {
	for _, pair := range [][2]int{{0, 2}, {0, -2}, {0, math.MinInt}, {0, 256}, {1, 3}, {1, -1}, {1, -255}, {1, math.MaxInt}} {
		plain, other := busy(t, func(c *api.Config) {}), busy(t, func(c *api.Config) {})
		for kind := range api.NumSteps + 1 {
			s := api.Step{Kind: kind, Side: pair[0], N: 1, At: 2, Mask: 3, Path: kind % 2, Data: []byte("xyz")}
			plain.Do(s)
			s.Side = pair[1]
			other.Do(s)
			if !reflect.DeepEqual(lookAt(other), lookAt(plain)) {
				t.Fatalf("kind %d: side %d is not as %d", kind, pair[1], pair[0])
			}
		}
		if !reflect.DeepEqual(plain.Stat(pair[1]), plain.Stat(pair[0])) || reflect.DeepEqual(plain.Stat(pair[1]), plain.Stat(1-pair[0])) {
			t.Errorf("Stat(%d)", pair[1])
		}
		for path := range 2 {
			if b := plain.Bag(pair[1], path); len(b) == 0 || !reflect.DeepEqual(b, plain.Bag(pair[0], path)) || reflect.DeepEqual(b, plain.Bag(1-pair[0], path)) {
				t.Errorf("Bag(%d, %d)", pair[1], path)
			}
		}
		for _, e := range other.Trace()[len(other.Trace())-4:] {
			if e.Side != pair[0] {
				t.Errorf("%+v by side %d", e, pair[1])
			}
		}
	}
}

// P15.2: a place is counted round the frames that lie there; with none in the bag nothing happens.
func TestPlaces(t *testing.T) {
	far := func(n, place int) int { return (math.MaxInt/n-1)*n + place }
	for n := range 4 {
		for want := range max(n, 1) {
			for _, place := range []int{want, want + n, want + 7*n, want - n, want - 9*n, far(max(n, 1), want), -far(max(n, 1), 0) + want} {
				for _, kind := range []int{api.StepDrop, api.StepDeliver, api.StepDouble, api.StepSpoil} {
					w := open(t, config(), write(0, "abcdefghijklmnopqrst"[:4*n]))
					if n == 3 {
						w = open(t, with(func(c *api.Config) { c.Bag = 4 }), write(0, "abcdefghijkl"))
					}
					before := w.Bag(0, 0)
					events := len(w.Log())
					w.Do(api.Step{Kind: kind, N: place, Mask: 1})
					checkPlace(t, w, kind, n, want, before, w.Log()[events:])
				}
			}
		}
	}
	// With three frames -1 is the last one, 7 the second one; the ends of an int: -2^63 leaves 1 behind, 2^63 - 1 too.
	for _, x := range []struct {
		place int
		left  []uint64
	}{{-1, []uint64{0, 4}}, {7, []uint64{0, 8}}, {math.MaxInt, []uint64{0, 8}}, {math.MinInt, []uint64{0, 8}}, {3, []uint64{4, 8}}} {
		w := open(t, config(), write(0, "abcdefghijkl"), api.Step{Kind: api.StepDrop, N: x.place})
		if got := offs(t, w, 0, 0); !reflect.DeepEqual(got, x.left) {
			t.Errorf("place %d: %v are left, want %v", x.place, got, x.left)
		}
	}
}

// checkPlace: of n frames the one at place want was met by a step, and no other one.
func checkPlace(t *testing.T, w *harness.World, kind, n, want int, before []api.Parcel, news []api.Event) {
	t.Helper()
	if n == 0 {
		if len(news) != 0 {
			t.Errorf("kind %d, no frame: %+v", kind, news)
		}
		return
	}
	after := w.Bag(0, 0)
	b := before[want].Bytes
	left := append(append([]api.Parcel{}, before[:want]...), before[want+1:]...)
	switch kind {
	case api.StepDrop:
		if !reflect.DeepEqual(after, left) && len(left) > 0 || len(news) != 1 {
			t.Errorf("drop %d of %d: %+v", want, n, after)
		}
	case api.StepDeliver:
		if !reflect.DeepEqual(after, left) && len(left) > 0 || news[0].What != api.EventHeard || !bytes.Equal(news[0].Bytes, b) {
			t.Errorf("deliver %d of %d: %+v", want, n, after)
		}
	case api.StepDouble:
		if !reflect.DeepEqual(after, append(before[:n:n], before[want])) {
			t.Errorf("double %d of %d: %+v", want, n, after)
		}
	case api.StepSpoil:
		for i, p := range after {
			if p.Spoilt != (i == want) || bytes.Equal(p.Bytes, before[i].Bytes) != (i != want) {
				t.Errorf("spoil %d of %d: %+v", want, n, after)
			}
		}
	}
}

// P15.2: At is counted round the frame's bytes.
func TestSpoiltByte(t *testing.T) {
	base := open(t, config(), write(0, "abcd")).Bag(0, 0)[0].Bytes
	n := len(base) // 28
	for _, x := range []struct{ at, want int }{
		{0, 0}, {1, 1}, {n - 1, n - 1}, {n, 0}, {n + 3, 3}, {5*n + 2, 2}, {-1, n - 1}, {-n, 0}, {-n - 1, n - 1}, {-3*n + 7, 7},
		{math.MaxInt, 7}, {math.MinInt, 20}, // 2^63 - 1 leaves 7 behind, by 28
	} {
		w := open(t, config(), write(0, "abcd"), spoil(0, 0, 0, x.at, 0x81))
		p := w.Bag(0, 0)[0]
		for i := range base {
			if want := base[i] ^ map[bool]byte{true: 0x81}[i == x.want]; p.Bytes[i] != want || !p.Spoilt {
				t.Errorf("At %d: byte %d is %x, want %x", x.at, i, p.Bytes[i], want)
			}
		}
	}
}

// P15.2: a Mask of 0 spoils nothing, and the same one twice heals.
func TestHealed(t *testing.T) {
	for _, steps := range [][]api.Step{
		{spoil(0, 0, 0, 5, 0)},
		{spoil(0, 0, 0, 5, 9), spoil(0, 0, 0, 5, 9)},
		{spoil(0, 0, 0, 5, 9), spoil(0, 0, 0, 6, 1), spoil(0, 0, 0, 5, 8), spoil(0, 0, 0, 6, 1), spoil(0, 0, 0, 5, 1)},
	} {
		w := open(t, config(), write(0, "abcd"))
		for _, s := range steps {
			w.Do(s)
		}
		if w.Bag(0, 0)[0].Spoilt {
			t.Error("spoilt")
		}
		w.Do(flush(0))
		w.Do(read(1, 9))
		if e := w.Trace()[1]; string(e.Data) != "abcd" || w.Forged() != 0 {
			t.Errorf("%+v, forged %d", e, w.Forged())
		}
		if l := w.Log(); len(l) != len(steps)+7 {
			t.Errorf("%d events", len(l)) // sent; each spoiling; heard; ACK and DACK sent and heard; the DACK of Read
		}
	}
}

// forge spoils a frame of A's on path 0 byte by byte, until it is another one.
func forge(t *testing.T, w *harness.World, k int, f api.Frame) {
	t.Helper()
	b, bad := wire.Encode(f)
	now := w.Bag(0, 0)[k].Bytes
	if bad != api.OK || len(b) != len(now) {
		t.Fatal(bad, len(b), len(now))
	}
	for i := range b {
		if b[i] != now[i] {
			w.Do(spoil(0, 0, k, i, b[i]^now[i]))
		}
	}
}

// P15.2: a spoilt frame is refused, or, if it can be read, heard as what it is, and counted.
func TestForged(t *testing.T) {
	data := api.Frame{Kind: api.KindData, Num: 0, Off: 0, Data: []byte("wxyz")}
	w := open(t, config(), write(0, "abcdefgh"), spoil(0, 0, 0, 20, 1))
	before := w.Stat(1)
	w.Do(deliver(0, 0, 0))
	if w.Forged() != 0 || !reflect.DeepEqual(w.Stat(1), before) || len(w.Bag(1, 0)) != 0 || len(w.Bag(0, 0)) != 1 {
		t.Error("a frame that can't be read")
	}

	w = open(t, config(), write(0, "abcdefgh"))
	forge(t, w, 0, data)
	if w.Forged() != 0 || !w.Bag(0, 0)[0].Spoilt {
		t.Error("forged ahead of its time")
	}
	w.Do(deliver(0, 0, 0))
	w.Do(deliver(0, 0, 0)) // not spoilt
	w.Do(read(1, 99))
	if e := w.Trace()[1]; string(e.Data) != "wxyzefgh" || w.Forged() != 1 {
		t.Errorf("%q, forged %d", e.Data, w.Forged())
	}

	// A double of a spoilt frame is one too; so is one that a side in error does not hear, and one of a flush.
	w = open(t, config(), write(0, "abcd"))
	forge(t, w, 0, data)
	w.Do(api.Step{Kind: api.StepDouble})
	w.Do(atSide(api.StepAbort, 1))
	w.Do(deliver(0, 0, 0))
	if w.Forged() != 1 {
		t.Errorf("forged %d", w.Forged())
	}
	w.Do(flush(0))
	if w.Forged() != 2 {
		t.Errorf("forged %d", w.Forged())
	}
	// Dropped, or left lying: not delivered.
	w = open(t, config(), write(0, "abcdefgh"))
	forge(t, w, 0, data)
	w.Do(onPath(api.StepDown, 0))
	w.Do(deliver(0, 0, 0))
	w.Do(flush(0))
	w.Do(api.Step{Kind: api.StepDrop})
	if w.Forged() != 0 {
		t.Errorf("forged %d", w.Forged())
	}
}

// P15.2: on a path that is down nothing is delivered, doubled or flushed; frames are dropped and spoilt there, and what is sent is lost.
func TestDown(t *testing.T) {
	w := open(t, config(), write(0, "abcd"), write(1, "ABCD"), onPath(api.StepDown, 0))
	before := lookAt(w)
	for _, s := range []api.Step{deliver(0, 0, 0), deliver(1, 0, -1), {Kind: api.StepDouble}, {Kind: api.StepDouble, Side: 1}, flush(0), onPath(api.StepDown, 0)} {
		w.Do(s)
		if !reflect.DeepEqual(lookAt(w), before) {
			t.Fatalf("%+v did something", s)
		}
	}
	w.Do(write(0, "efgh"))
	if l := w.Log(); len(l) != 3 || l[2].What != api.EventLost || len(w.Bag(0, 0)) != 1 {
		t.Errorf("%+v", l)
	}
	w.Do(spoil(0, 0, 0, 0, 1))
	if !w.Bag(0, 0)[0].Spoilt {
		t.Error("not spoilt")
	}
	w.Do(api.Step{Kind: api.StepDrop, Side: 1})
	if len(w.Bag(1, 0)) != 0 || len(w.Bag(0, 0)) != 1 {
		t.Error("not dropped")
	}
	w.Do(onPath(api.StepUp, 1)) // another path
	w.Do(deliver(0, 0, 0))
	if len(w.Bag(0, 0)) != 1 {
		t.Error("up by another path")
	}
	w.Do(onPath(api.StepUp, 0))
	w.Do(deliver(0, 0, 0))
	if len(w.Bag(0, 0)) != 0 {
		t.Error("not up")
	}
	// The other path goes on.
	w = open(t, config(), joins(api.StepJoin, 0, 1, false), onPath(api.StepDown, 0), flush(1))
	if w.Stat(0).Paths[1].State != 3 || w.Stat(1).Paths[1].State != 3 {
		t.Error("path 1 is not joined")
	}
}

// P15.2: a bag of one place that is full, by what a side sends, and by double.
func TestFullBag(t *testing.T) {
	c := with(func(c *api.Config) { c.Bag = 1 })
	w := open(t, c, write(0, "abcdefghi"))
	if got := offs(t, w, 0, 0); len(got) != 1 || got[0] != 0 {
		t.Errorf("%v lie there", got)
	}
	l := w.Log()
	if len(l) != 3 || l[0].What != api.EventSent || l[1].What != api.EventLost || l[2].What != api.EventLost || frameOf(t, l[2].Bytes).Off != 8 {
		t.Errorf("%+v", l)
	}
	w.Do(api.Step{Kind: api.StepDouble})
	if len(w.Bag(0, 0)) != 1 || len(w.Log()) != 3 {
		t.Error("doubled")
	}
	w.Do(deliver(0, 0, 5)) // B sends ACK and DACK: the second one is lost
	l = w.Log()
	if len(l) != 6 || l[4].What != api.EventSent || l[5].What != api.EventLost || l[5].Side != 1 || frameOf(t, l[5].Bytes).Kind != api.KindDack {
		t.Errorf("%+v", l)
	}
	w = open(t, with(func(c *api.Config) { c.Bag = 2 }), write(0, "abcd"), api.Step{Kind: api.StepDouble}, api.Step{Kind: api.StepDouble})
	if len(w.Bag(0, 0)) != 2 || len(w.Log()) != 2 {
		t.Error("not doubled once")
	}
}

// P15.2: flush goes turn about: all of A's, the oldest first, then all of B's, and again what came of them; other paths lie still.
func TestFlush(t *testing.T) {
	c := with(func(c *api.Config) { c.Mss, c.RecvBuf, c.SendBuf, c.Bag, c.Sched = 4, 8, 40, 50, api.Single })
	w := open(t, c, write(0, "abcdefghijkl"), write(1, "ABCD"), flush(0))
	type heard struct{ side, kind, off int }
	var got []heard
	for _, e := range w.Log() {
		if e.What == api.EventHeard {
			f := frameOf(t, e.Bytes)
			got = append(got, heard{e.Side, f.Kind, int(f.Off)})
		}
	}
	want := []heard{
		{0, api.KindData, 0}, {0, api.KindData, 4}, // what lay in A's bag
		{1, api.KindData, 1000}, {1, api.KindAck, 0}, {1, api.KindDack, 4}, {1, api.KindAck, 0}, {1, api.KindDack, 8}, // in B's, what came of A's too
		{0, api.KindAck, 0}, {0, api.KindDack, 1004}, // and what came of that
	}
	if !reflect.DeepEqual(got, want) {
		t.Errorf("%v, want %v", got, want)
	}
	// B's Read tells a new edge: one flush brings the rest, and its answers.
	w.Do(read(1, 99))
	w.Do(flush(0))
	if s := w.Stat(0); s.Acked != 12 || s.High != 12 || w.Stat(1).Ready != 4 {
		t.Errorf("%+v", s)
	}
	for side := range 2 {
		if len(w.Bag(side, 0)) != 0 {
			t.Error("something lies there")
		}
	}

	w = open(t, with(func(c *api.Config) { c.Bag = 50 }), joins(api.StepJoin, 0, 1, false), write(0, "abcd"))
	before := w.Bag(0, 1)
	w.Do(flush(0))
	if !reflect.DeepEqual(w.Bag(0, 1), before) || len(before) != 1 || len(w.Bag(1, 1)) != 0 || w.Stat(1).Next != 4 {
		t.Error("path 1 was flushed")
	}
	events := len(w.Log())
	w.Do(flush(0)) // nothing lies there
	if len(w.Log()) != events {
		t.Error("an empty flush")
	}
}

// P15.2: only what lies in A's bag at that moment is delivered ahead of B's: what a frame of B's brings about waits for the next turn.
func TestFlushTurns(t *testing.T) {
	c := with(func(c *api.Config) { c.Paths, c.SendBuf, c.RecvBuf, c.Bag = 1, 100, 100, 100 })
	w := open(t, c, write(0, "0123456789abcdefghijklmnopqrstuvwxyz0123456789ABCD")) // 13 chunks, a window of ten
	w.Do(flush(0))
	turns, last := 0, 1
	for _, e := range w.Log() {
		if e.What == api.EventHeard {
			if e.Side == 0 && last == 1 {
				turns++
			}
			last = e.Side
		}
	}
	if turns != 2 || w.Stat(0).Acked != 50 {
		t.Errorf("%d turns, %+v", turns, w.Stat(0))
	}
}

// P15.2: Join, Prio and Leave are the side's own calls, with the flag; over the single path connection they are nothing.
func TestPathCalls(t *testing.T) {
	w := open(t, config(), joins(api.StepJoin, 0, 1, true))
	if f := frameOf(t, w.Bag(0, 1)[0].Bytes); f.Kind != api.KindJoin || !f.Backup {
		t.Errorf("%+v", f)
	}
	w = open(t, config(), joins(api.StepJoin, 0, 1, false))
	if f := frameOf(t, w.Bag(0, 1)[0].Bytes); f.Backup {
		t.Errorf("%+v", f)
	}
	w.Do(flush(1))
	for _, on := range []bool{true, false} {
		w.Do(joins(api.StepPrio, 1, 1, on))
		b := w.Bag(1, 1)
		if f := frameOf(t, b[len(b)-1].Bytes); f.Kind != api.KindPrio || f.Backup != on {
			t.Errorf("%+v", f)
		}
	}
	w.Do(joins(api.StepLeave, 0, 1, false))
	b := w.Bag(0, 0)
	if f := frameOf(t, b[len(b)-1].Bytes); f.Kind != api.KindGone || f.Which != 1 || w.Stat(0).Paths[1].State == 3 {
		t.Errorf("%+v", f)
	}
	if len(w.Trace()) != 0 {
		t.Error("a call of paths is in the Trace")
	}

	w = busy(t, func(c *api.Config) { c.Sched = api.Single })
	before := lookAt(w)
	for _, kind := range []int{api.StepJoin, api.StepPrio, api.StepLeave} {
		for path := range 2 {
			for side := range 2 {
				w.Do(joins(kind, side, path, true))
			}
		}
	}
	if !reflect.DeepEqual(lookAt(w), before) {
		t.Error("something happened over path 0 alone")
	}
}

// P15.3: an entry for each call of the application, with just what its kind has.
func TestTrace(t *testing.T) {
	w := open(t, config(),
		write(0, "abcdefghijklmnopqrstuvwxyz"), write(0, ""), read(1, -3), deliver(0, 0, 0), read(1, 2), read(1, math.MaxInt), read(1, math.MinInt),
		write(0, "x"), atSide(api.StepClose, 1), atSide(api.StepClose, 1), write(1, "yz"), deliver(1, 0, 0), tick(0, 5),
		atSide(api.StepAbort, 0), atSide(api.StepAbort, 0), read(0, 7), write(0, "q"), atSide(api.StepClose, 0))
	want := []api.Entry{
		{Op: api.StepWrite, Data: []byte("abcdefghijklmnopqrstuvwxyz"), N: 20},
		{Op: api.StepWrite},
		{Side: 1, Op: api.StepRead, N: -3},
		{Side: 1, Op: api.StepRead, N: 2, Data: []byte("ab")},
		{Side: 1, Op: api.StepRead, N: math.MaxInt, Data: []byte("cd")},
		{Side: 1, Op: api.StepRead, N: math.MinInt},
		{Op: api.StepWrite, Data: []byte("x")},
		{Side: 1, Op: api.StepClose},
		{Side: 1, Op: api.StepClose, Err: api.ErrClosed},
		{Side: 1, Op: api.StepWrite, Data: []byte("yz"), Err: api.ErrClosed},
		{Op: api.StepAbort},
		{Op: api.StepAbort, Err: api.ErrAborted},
		{Op: api.StepRead, N: 7, Err: api.ErrAborted},
		{Op: api.StepWrite, Data: []byte("q"), Err: api.ErrAborted},
		{Op: api.StepClose, Err: api.ErrAborted},
	}
	if got := w.Trace(); !sameEntries(got, want) {
		t.Errorf("%+v\nwant %+v", got, want)
	}
	// The end is told.
	w = open(t, config(), atSide(api.StepClose, 1), read(0, 4), flush(0), read(0, 4), read(0, 0))
	want = []api.Entry{{Side: 1, Op: api.StepClose}, {Op: api.StepRead, N: 4}, {Op: api.StepRead, N: 4, End: true}, {Op: api.StepRead, End: true}}
	if got := w.Trace(); !sameEntries(got, want) {
		t.Errorf("%+v\nwant %+v", got, want)
	}
}

// P15.4: Bag of a path that is not there is nothing.
func TestBagOfNoPath(t *testing.T) {
	w := busy(t, func(c *api.Config) {})
	for _, path := range []int{2, 8, -1, math.MaxInt, math.MinInt} {
		for side := range 2 {
			if b := w.Bag(side, path); len(b) != 0 {
				t.Errorf("Bag(%d, %d): %+v", side, path, b)
			}
		}
	}
	if b := w.Bag(1, 0); !b[0].Spoilt || b[1].Spoilt {
		t.Errorf("%+v", b)
	}
}
