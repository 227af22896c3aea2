package carry_test

import (
	"math"
	"testing"

	"braid/api"
	"braid/carry"
	"braid/harness"
	"braid/wire"
)

// dice gives the same row of numbers in every run.
type dice uint64

func (d *dice) below(n int) int {
	*d = *d*6364136223846793005 + 1442695040888963407
	return int(uint64(*d) >> 20 % uint64(n))
}

func (d *dice) one(in int) bool { return d.below(in) == 0 }

func (d *dice) int(l ...int) int { return l[d.below(len(l))] }

func rowsOf(n int) int {
	if testing.Short() {
		return n / 10
	}
	return n
}

func someData(d *dice, most int) []byte {
	b := make([]byte, d.below(most+1))
	for i := range b {
		b[i] = byte(d.below(256))
	}
	return b
}

// someConfig is one that may be.
func someConfig(d *dice, sched int) api.Config {
	c := api.Config{
		Paths: d.int(1, 2, 2, 3, 8), Mss: d.int(1, 1, 3, 4, 10), Gaps: d.int(1, 2, 8, 64), Retries: d.int(1, 1, 2, 3, 16),
		SendBuf: d.int(1, 20, 60, 200, 1000), Bag: d.int(1, 2, 5, 50, 4096, api.MaxBag), Sched: sched,
		Keys: [2]uint64{uint64(d.below(9)), uint64(d.below(9))}, Base: [2]uint64{uint64(d.int(0, 5, 1<<62-30)), uint64(d.int(0, 1000, 1<<62))},
	}
	c.RecvBuf = c.Mss + d.int(0, 0, 1, 2, 10, 30, 100, 300)
	for range d.below(c.Paths + 1) {
		c.Weights = append(c.Weights, 1+d.below(4))
	}
	if sched == api.Replay || d.one(9) {
		for side := range 2 {
			for range d.below(60) {
				c.Picks[side] = append(c.Picks[side], api.Pick{Path: d.below(c.Paths+2) - 1, Off: c.Base[side] + uint64(d.below(40)/c.Mss*c.Mss), Len: d.int(c.Mss, c.Mss, c.Mss, 0, 1, -1)})
			}
		}
	}
	return c
}

// someStep is one of any kind, with fields that its kind has; now and then with odd ones.
func someStep(d *dice, c api.Config) api.Step {
	s := api.Step{Kind: d.int(1, 1, 1, 2, 2, 2, 3, 5, 5, 5, 6, 6, 6, 6, 6, 6, 7, 8, 9, 10, 11, 11, 12, 12, 12, 13, 13, 14, 15)}
	if d.one(60) {
		s.Kind = d.int(api.StepAbort, 0, 16, -1, 99, math.MaxInt)
	}
	if s.Kind < api.StepDown || s.Kind > api.StepFlush {
		s.Side = d.below(2)
	}
	if s.Kind >= api.StepDeliver {
		s.Path = d.below(c.Paths)
	}
	switch s.Kind {
	case api.StepWrite:
		s.Data = someData(d, 30)
	case api.StepRead:
		s.N = d.int(0, 1, 5, 100, 1000, -1)
	case api.StepTick:
		s.N = d.int(0, 1, 10, 199, 200, 1000, 1000, 3000, 10000, 60000, -5)
	case api.StepDeliver, api.StepDrop, api.StepDouble:
		s.N = d.int(0, 0, 0, 1, 2, -1, 7, -9)
	case api.StepSpoil:
		s.N, s.At, s.Mask = d.int(0, 1, -1), d.below(60)-20, byte(d.int(0, 1, 1, 255))
	case api.StepJoin, api.StepPrio:
		s.On = d.one(3)
	}
	if d.one(40) {
		s.Side, s.Path = d.int(-1, 2, 3, math.MinInt, math.MaxInt), d.int(-1, 8, c.Paths, 0)
	}
	if d.one(60) {
		s.N, s.At = d.int(math.MinInt, math.MaxInt), d.int(math.MinInt, math.MaxInt)
	}
	return s
}

// joining is the steps that join some of a configuration's paths.
func joining(d *dice, c api.Config) []api.Step {
	var l []api.Step
	for p := 1; p < c.Paths; p++ {
		if !d.one(4) {
			l = append(l, api.Step{Kind: api.StepJoin, Path: p, On: d.one(5)}, flush(p))
		}
	}
	return l
}

// blind is a script of steps that know nothing of one another.
func blind(d *dice, sched, steps int) api.Script {
	s := api.Script{Config: someConfig(d, sched)}
	s.Steps = joining(d, s.Config)
	for range d.below(steps) {
		s.Steps = append(s.Steps, someStep(d, s.Config))
	}
	return s
}

// habit is how often each thing is done in a lively script.
type habit struct {
	writes, reads, closes, delivers, flushes, drops, ticks, spoils, downs int
}

func someHabit(d *dice) habit {
	return habit{1 + d.below(8), d.below(8), d.below(2), 4 + d.below(30), d.below(3), d.below(6), d.below(6), d.below(4), d.below(2)}
}

// chosen is one of the kinds, as often as the habit has it.
func (h habit) chosen(d *dice) int {
	l := []struct{ kind, often int }{
		{api.StepWrite, h.writes}, {api.StepRead, h.reads}, {api.StepClose, h.closes}, {api.StepDeliver, h.delivers}, {api.StepFlush, h.flushes},
		{api.StepDrop, h.drops}, {api.StepTick, h.ticks}, {api.StepSpoil, h.spoils}, {api.StepDown, h.downs},
	}
	all := 0
	for _, x := range l {
		all += x.often
	}
	n := d.below(all)
	for _, x := range l {
		if n < x.often {
			return x.kind
		}
		n -= x.often
	}
	return api.StepRead
}

// lying is one of the bags that is not empty; false, if all are.
func lying(d *dice, w *harness.World, paths int) (side, path, count int, ok bool) {
	n := d.below(2 * paths)
	for i := range 2 * paths {
		side, path = (n+i)%2, (n+i)/2%paths
		if count = len(w.Bag(side, path)); count > 0 {
			return side, path, count, true
		}
	}
	return 0, 0, 0, false
}

// lively is a script whose steps meet what is there: frames that lie, paths that are down, what was spoilt.
func lively(t *testing.T, d *dice, sched, steps int) api.Script {
	s := api.Script{Config: someConfig(d, sched)}
	w := open(t, s.Config)
	do := func(l ...api.Step) {
		for _, x := range l {
			w.Do(x)
			s.Steps = append(s.Steps, x)
		}
	}
	do(joining(d, s.Config)...)
	h := someHabit(d)
	for range steps {
		side, path, count, any := lying(d, w, s.Config.Paths)
		x := api.Step{Kind: h.chosen(d)}
		switch x.Kind {
		case api.StepWrite:
			x.Side, x.Data = d.below(2), someData(d, d.int(3, 30, 300))
		case api.StepRead:
			x.Side, x.N = d.below(2), d.int(0, 1, 5, 100, 1000)
		case api.StepClose:
			x.Side = d.below(2)
		case api.StepTick:
			x.Side, x.N = d.below(2), d.int(0, 200, 1000, 3000, 60000)
		case api.StepFlush:
			x.Path = d.below(s.Config.Paths)
		case api.StepDown:
			do(x)
			x = api.Step{Kind: d.int(api.StepUp, api.StepUp, api.StepTick), N: 1000}
		case api.StepSpoil:
			if any {
				x.Side, x.Path, x.N, x.At, x.Mask = side, path, d.below(count), d.below(60), byte(1+d.below(255))
				do(x)
			}
			if any && d.one(2) {
				x = api.Step{Kind: api.StepDouble, Side: side, Path: path, N: x.N}
			}
		default:
			x.Side, x.Path, x.N = side, path, d.int(0, d.below(max(count, 1)))
		}
		do(x)
	}
	return s
}

// fatal is a script in which a side, or both, end while much is under way, and the network goes on.
func fatal(t *testing.T, d *dice, sched int) api.Script {
	s := lively(t, d, sched, 10+d.below(60))
	side := d.below(2)
	for range 1 + d.below(2) {
		s.Steps = append(s.Steps, api.Step{Kind: api.StepWrite, Side: side, Data: someData(d, 900)})
		if d.one(3) {
			s.Steps = append(s.Steps, api.Step{Kind: api.StepClose, Side: side})
		}
		s.Steps = append(s.Steps, ending(d, side)...)
		for range d.below(60) {
			s.Steps = append(s.Steps, behind(d, s.Config))
		}
		side = 1 - side
	}
	return s
}

// ending is steps by which a side that has not ended does.
func ending(d *dice, side int) []api.Step {
	if d.one(2) {
		return []api.Step{{Kind: api.StepAbort, Side: side}}
	}
	var l []api.Step
	for range 60 {
		l = append(l, api.Step{Kind: api.StepTick, Side: side, N: api.MaxRto})
	}
	return l
}

// behind is one of the steps that lie behind a side's end.
func behind(d *dice, c api.Config) api.Step {
	path := d.below(c.Paths)
	switch d.below(12) {
	case 0:
		return flush(path)
	case 1, 2:
		return read(d.below(2), d.int(1, 5, 100))
	case 3:
		return api.Step{Kind: api.StepWrite, Side: d.below(2), Data: someData(d, 20)}
	case 4:
		return api.Step{Kind: d.int(api.StepClose, api.StepAbort, api.StepDrop, api.StepDrop, api.StepDrop), Side: d.below(2), Path: path, N: -1}
	}
	return deliver(d.below(2), path, d.int(0, 0, 0, 1, 3, -1))
}

// somewhere is a target.
func somewhere(d *dice) (int, int) {
	return targets[d.below(len(targets))], d.int(1, 1, 2, 3, api.MaxPaths)
}

// P16.2 to P16.6: scripts of all kinds of steps, over each scheduler.
func TestRows(t *testing.T) {
	for row := range rowsOf(700) {
		d := dice(row)
		sched := row % api.NumScheds
		for _, s := range []api.Script{blind(&d, sched, 150), lively(t, &d, sched, 150), fatal(t, &d, sched)} {
			to, paths := somewhere(&d)
			carries(t, s, to, paths)
			if t.Failed() {
				t.Fatalf("row %d", row)
			}
		}
	}
}

// seen is what an application's next answers hang on; of a side in error that is its error alone.
func seen(s api.Stat) [8]uint64 {
	if s.Err != api.OK {
		return [8]uint64{uint64(s.Err)}
	}
	return [8]uint64{0, s.Acked, s.End, s.Edge, s.Next, s.Own, uint64(s.Free), uint64(s.Ready)}
}

// S2: at the script's end the sides stand where the given script's do, so that the next answers could be the same too.
func TestStandsAlike(t *testing.T) {
	for row := range rowsOf(300) {
		d := dice(5000 + row)
		sched := row % api.NumScheds
		for _, s := range []api.Script{blind(&d, sched, 100), lively(t, &d, sched, 100), fatal(t, &d, sched)} {
			was := harness.Run(s)
			to, paths := somewhere(&d)
			is := harness.Run(carriesFrom(t, s, was, to, paths))
			for side := range 2 {
				if a, b := seen(was.Stats[side]), seen(is.Stats[side]); was.Forged == 0 && a != b {
					t.Fatalf("row %d: side %d: %v, want %v", row, side, b, a)
				}
			}
		}
	}
}

// P16.4: there and back again, by the single path connection and any other.
func TestThereAndBack(t *testing.T) {
	for row := range rowsOf(200) {
		d := dice(10000 + row)
		s := fatal(t, &d, row%api.NumScheds)
		if row%2 == 0 {
			s = lively(t, &d, row%api.NumScheds, 150)
		}
		was := harness.Run(s)
		there := carriesFrom(t, s, was, api.Single, 1)
		to, paths := somewhere(&d)
		back := carries(t, there, to, paths)
		if was.Forged == 0 {
			agree(t, was, back)
		}
		if t.Failed() {
			t.Fatalf("row %d", row)
		}
	}
}

// forging is spoilings of a frame that lies there, behind which it can be read as another one.
func forging(d *dice, w *harness.World) []api.Step {
	side := d.below(2)
	for k, p := range w.Bag(side, 0) {
		f, bad := wire.Decode(p.Bytes)
		if bad != api.OK || !turned(d, &f) {
			continue
		}
		b, bad := wire.Encode(f)
		if bad != api.OK || len(b) != len(p.Bytes) {
			continue
		}
		var l []api.Step
		for at := range b {
			if b[at] != p.Bytes[at] {
				l = append(l, api.Step{Kind: api.StepSpoil, Side: side, N: k, At: at, Mask: b[at] ^ p.Bytes[at]})
			}
		}
		return append(l, deliver(side, 0, k))
	}
	return nil
}

// turned makes another frame of one; false, if it is of a kind that is left alone.
func turned(d *dice, f *api.Frame) bool {
	by := uint64(1 + d.below(50))
	switch f.Kind {
	case api.KindData, api.KindFin:
		f.Off, f.Num = f.Off+by*uint64(d.below(2)), f.Num+by*uint64(d.below(2))
	case api.KindDack:
		f.Off, f.Edge = f.Off+by*uint64(d.below(2)), f.Edge+by*1000
	case api.KindAck:
		f.Ranges[len(f.Ranges)-1].Hi += by
	default:
		return false
	}
	return true
}

// P16.1, P16.2, P16.3, P16.5: what was forged may make other answers, and a script of the same calls is given all the same.
func TestForged(t *testing.T) {
	forged := 0
	for row := range rowsOf(400) {
		d := dice(20000 + row)
		s := lively(t, &d, row%api.NumScheds, 40)
		w := open(t, s.Config)
		for _, x := range s.Steps {
			w.Do(x)
		}
		for range 60 {
			more := forging(&d, w)
			if !d.one(4) {
				more = []api.Step{behind(&d, s.Config)}
			}
			for _, x := range more {
				w.Do(x)
				s.Steps = append(s.Steps, x)
			}
		}
		forged += min(w.Forged(), 1)
		to, paths := somewhere(&d)
		out, bad := carry.Over(s, to, paths)
		if bad != api.OK {
			t.Fatalf("row %d: %v", row, bad)
		}
		plain(t, s, out, to, paths)
	}
	if forged < rowsOf(400)/4 {
		t.Errorf("only %d scripts were forged", forged)
	}
}
