package harness_test

import (
	"math"
	"testing"

	"braid/api"
	"braid/harness"
	"braid/script"
	"braid/wire"
)

// dice gives the same row of numbers in every run.
type dice uint64

func (d *dice) below(n int) int {
	*d = *d*6364136223846793005 + 1442695040888963407
	return int(uint64(*d) >> 20 % uint64(n))
}

func (d *dice) one(in int) bool { return d.below(in) == 0 }

func (d *dice) int(l ...int) int { return l[d.below(len(l))] }

func rowsOf(n int) int {
	if testing.Short() {
		return n / 20
	}
	return n
}

func readable(b []byte) bool {
	_, bad := wire.Decode(b)
	return bad == api.OK
}

func someData(d *dice, most int) []byte {
	b := make([]byte, d.below(most+1))
	for i := range b {
		b[i] = byte(d.int('a', ' ', '"', '\\', 0, 10, 127, 255, d.below(256)))
	}
	return b
}

// someConfig is one that may be.
func someConfig(d *dice, sched int) api.Config {
	c := api.Config{
		Paths: d.int(1, 2, 2, 3, 8), Mss: d.int(1, 3, 4, 10), SendBuf: d.int(1, 20, 60, 200), RecvBuf: d.int(10, 12, 40, 100), Gaps: d.int(1, 2, 8, 64), Retries: d.int(1, 1, 2, 3, 16),
		Bag: d.int(1, 2, 5, 2048, 4096, api.MaxBag), Sched: sched, Keys: [2]uint64{uint64(d.below(9)), uint64(d.below(9))}, Base: [2]uint64{uint64(d.int(0, 5, 1<<62-30)), uint64(d.int(0, 1000, 1<<62))},
	}
	for range d.below(c.Paths + 1) {
		c.Weights = append(c.Weights, 1+d.below(4))
	}
	if sched == api.Replay || d.one(9) {
		for side := range 2 {
			for range d.below(40) {
				c.Picks[side] = append(c.Picks[side], api.Pick{Path: d.below(c.Paths+2) - 1, Off: c.Base[side] + uint64(d.below(40)/c.Mss*c.Mss), Len: d.int(c.Mss, c.Mss, c.Mss, 0, 1, -1)})
			}
		}
	}
	return c
}

// someStep is one of any kind, with fields that its kind has; now and then with odd ones.
func someStep(d *dice, c api.Config) api.Step {
	s := api.Step{Kind: d.int(1, 1, 1, 2, 2, 2, 3, 5, 5, 5, 6, 6, 6, 6, 6, 6, 7, 8, 9, 10, 11, 11, 12, 12, 12, 13, 13, 14, 15)}
	if d.one(60) {
		s.Kind = d.int(api.StepAbort, 0, 16, -1, 99, math.MaxInt)
	}
	if s.Kind < api.StepDown || s.Kind > api.StepFlush {
		s.Side = d.below(2)
	}
	if s.Kind >= api.StepDeliver {
		s.Path = d.below(c.Paths)
	}
	switch s.Kind {
	case api.StepWrite:
		s.Data = someData(d, 30)
	case api.StepRead:
		s.N = d.int(0, 1, 5, 100, 1000, -1)
	case api.StepTick:
		s.N = d.int(0, 1, 10, 199, 200, 1000, 1000, 3000, 10000, 60000, -5)
	case api.StepDeliver, api.StepDrop, api.StepDouble:
		s.N = d.int(0, 0, 0, 1, 2, -1, 7, -9)
	case api.StepSpoil:
		s.N, s.At, s.Mask = d.int(0, 1, -1), d.below(60)-20, byte(d.int(0, 1, 1, 255))
	case api.StepJoin, api.StepPrio:
		s.On = d.one(3)
	}
	if d.one(40) {
		s.Side, s.Path = d.int(-1, 2, 3, math.MinInt, math.MaxInt), d.int(-1, 8, c.Paths, 0)
	}
	if d.one(60) {
		s.N, s.At = d.int(math.MinInt, math.MaxInt), d.int(math.MinInt, math.MaxInt)
	}
	return s
}

func someScript(d *dice, sched, steps int) api.Script {
	s := api.Script{Config: someConfig(d, sched)}
	for p := 1; p < s.Config.Paths && d.one(2); p++ {
		s.Steps = append(s.Steps, api.Step{Kind: api.StepJoin, Path: p}, flush(p))
	}
	for range d.below(steps) {
		s.Steps = append(s.Steps, someStep(d, s.Config))
	}
	return s
}

// forging makes one step in many of a script's a spoiling that the next one's frame survives: DATA of A's on path 0 becomes other DATA.
func forging(d *dice, w *harness.World) []api.Step {
	bag := w.Bag(0, 0)
	for k, p := range bag {
		f, bad := wire.Decode(p.Bytes)
		if bad != api.OK || f.Kind != api.KindData {
			continue
		}
		f.Data[d.below(len(f.Data))] ^= 1
		b, _ := wire.Encode(f)
		var l []api.Step
		for at := range b {
			if b[at] != p.Bytes[at] {
				l = append(l, spoil(0, 0, k, at, b[at]^p.Bytes[at]))
			}
		}
		return l
	}
	return nil
}

// P15.1 to P15.5, P15.8 to P15.10: rows of steps of every kind, right and wrong ones, over each scheduler, against the model behind every step; Run against both; Play, where the script has a text.
func TestAgainstModel(t *testing.T) {
	for row := range rowsOf(900) {
		d := dice(row)
		s := someScript(&d, row%api.NumScheds, 120)
		w, m := open(t, s.Config), newModel(t, s.Config)
		steps := s.Steps
		s.Steps = nil
		for i := 0; i < len(steps); i++ {
			x := steps[i]
			entries := len(m.trace)
			w.Do(x)
			m.do(x)
			s.Steps = append(s.Steps, x)
			m.sameLook(t, w, x)
			if len(m.trace) != entries || d.one(10) {
				m.same(t, w, x)
			}
			if row%5 == 0 && d.one(20) {
				steps = append(steps[:i+1:i+1], append(forging(&d, w), steps[i+1:]...)...)
			}
		}
		m.same(t, w, row)
		if r := harness.Run(s); !sameReports(r, m.report()) {
			t.Fatalf("row %d: Run: %+v\nwant %+v", row, r, m.report())
		}
		if text := script.Print(s); text != "" {
			if got := harness.Play(text); got != m.play() {
				t.Fatalf("row %d: Play: %s\nwant %s", row, got, m.play())
			}
		}
	}
}

// P15.9: a Trace only grows, by one entry at a call of the application's, and by nothing at any other step.
func TestTraceGrows(t *testing.T) {
	for row := range rowsOf(200) {
		d := dice(1000 + row)
		s := someScript(&d, row%api.NumScheds, 80)
		w := open(t, s.Config)
		before := w.Trace()
		for _, x := range s.Steps {
			w.Do(x)
			now := w.Trace()
			grown := len(now) - len(before)
			isCall := x.Kind >= api.StepWrite && x.Kind <= api.StepAbort
			if grown != 0 && grown != 1 || (grown == 1) != isCall || !sameEntries(now[:len(before)], before) {
				t.Fatalf("row %d: %+v: %d entries behind %d", row, x, len(now), len(before))
			}
			before = now
		}
	}
}
