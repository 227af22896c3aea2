package emu_test

import (
	"bytes"
	"math"
	"reflect"
	"slices"
	"testing"

	"braid/api"
	"braid/emu"
	"braid/harness"
	"braid/script"
)

// someRoad is a link of an experiment, on which frames come within its time.
func (d *dice) someRoad() api.LinkConfig {
	c := api.LinkConfig{
		Rate:  d.one(0, 0, 0, 1000, 20000, 1000000),
		Delay: d.one(0, 0, 10, 1000, 1000, 5000, 30000),
		Queue: d.one(1<<20, 1<<20, 1<<20, 25, 60, 200),
	}
	if d.maybe(3) {
		for range 1 + d.below(9) {
			c.Loss = append(c.Loss, d.maybe(6))
		}
	}
	if d.maybe(3) {
		for range 1 + d.below(5) {
			c.Jitter = append(c.Jitter, d.one(0, 0, 1000, 1000, 3000, d.below(20000)))
		}
	}
	return c
}

func (d *dice) someConn(sched int) api.Config {
	c := api.Config{
		Paths: d.one(1, 1, 2, 2, 3, 8), Mss: d.one(1, 3, 4, 10), SendBuf: d.one(1, 20, 60, 200), RecvBuf: d.one(10, 12, 40, 100), Gaps: d.one(1, 2, 8, 64), Retries: d.one(1, 1, 2, 3, 16),
		Bag: d.one(1, 2, 5, api.MaxBag), Sched: sched, Keys: [2]uint64{uint64(d.below(9)), uint64(d.below(9))}, Base: [2]uint64{uint64(d.one(0, 5, 1<<62-30)), uint64(d.one(0, 1000, 1<<62))},
	}
	for range d.below(c.Paths + 1) {
		c.Weights = append(c.Weights, 1+d.below(4))
	}
	if sched == api.Replay || d.maybe(9) {
		for side := range 2 {
			for range d.below(40) {
				c.Picks[side] = append(c.Picks[side], api.Pick{Path: d.below(c.Paths+2) - 1, Off: c.Base[side] + uint64(d.below(40)/c.Mss*c.Mss), Len: d.one(c.Mss, c.Mss, c.Mss, 0, 1, -1)})
			}
		}
	}
	return c
}

// someAct is one that may be, now and then with fields that its kind has not.
func (d *dice) someAct(c api.Config) api.Step {
	s := api.Step{Kind: d.one(1, 1, 1, 1, 2, 2, 3, 13, 14, 15), Side: d.below(2)}
	if d.maybe(60) {
		s.Kind = api.StepAbort
	}
	odd := d.maybe(5)
	if s.Kind == api.StepWrite || odd {
		s.Data = bytes.Repeat([]byte{byte(d.below(256))}, d.below(40))
	}
	if s.Kind == api.StepRead || odd {
		s.N = d.one(0, 1, 5, 100, -1, math.MinInt, math.MaxInt)
	}
	if s.Kind >= api.StepJoin || odd {
		s.Path, s.On = d.below(c.Paths), d.maybe(3)
	}
	if odd {
		s.At, s.Mask = d.below(9)-4, byte(d.below(256))
	}
	if d.maybe(20) {
		s.Path = d.one(-1, c.Paths, math.MaxInt, math.MinInt)
	}
	return s
}

// someRun is an experiment that may be.
func (d *dice) someRun(sched int) api.EmuConfig {
	c := api.EmuConfig{Conn: d.someConn(sched), Tick: d.one(1, 7, 10, 10, 200, 1000, 60000), Eager: [2]bool{!d.maybe(3), !d.maybe(3)}}
	for range c.Conn.Paths {
		c.Links = append(c.Links, [2]api.LinkConfig{d.someRoad(), d.someRoad()})
	}
	c.Until = uint64(c.Tick*1000)*uint64(d.below(60)) + uint64(d.one(0, 0, d.below(c.Tick*1000)))
	for p := 1; p < c.Conn.Paths && d.maybe(2); p++ {
		c.Plan = append(c.Plan, api.Act{Step: api.Step{Kind: api.StepJoin, Path: p, On: d.maybe(4)}})
	}
	c.Plan = append(c.Plan, d.somePlan(c, 0, d.below(40))...)
	return c
}

// somePlan is acts from a time on.
func (d *dice) somePlan(c api.EmuConfig, at uint64, acts int) []api.Act {
	var l []api.Act
	for range acts {
		switch d.below(4) {
		case 0:
			at += uint64(d.one(1, 1000, 10000, c.Tick*1000))
		case 1: // at a tick's moment
			at = (at/uint64(c.Tick*1000) + 1) * uint64(c.Tick*1000)
		}
		l = append(l, api.Act{At: at, Step: d.someAct(c.Conn)})
	}
	return l
}

// P24.11 to P24.13: any experiments, over each scheduler, against a book; what each did is the run of its script.
func TestAnyRuns(t *testing.T) {
	seen := make(map[string]int)
	for row := range rows(1200) {
		d := dice(row)
		c := d.someRun(row % api.NumScheds)
		m := newBook(t, c)
		m.play()
		r, e := emu.Run(c)
		if e != api.OK {
			t.Fatalf("row %d: %d", row, e)
		}
		if what := sameRun(r, m.report()); what != "" {
			t.Fatalf("row %d: %s of\n%+v\nwant\n%+v", row, what, r, m.report())
		}
		isScript(t, c, r)
		for what, n := range m.counts {
			seen[what] += n
		}
	}
	for _, what := range []string{"dropped", "out of turn", "eager", "told"} {
		if seen[what] < rows(1200) {
			t.Errorf("%s: only %d times", what, seen[what])
		}
	}
}

// isScript: harness.Run of the Script is the Report, a World tells the Log, and the Script has steps of some kinds alone, with the fields that these have.
func isScript(t *testing.T, c api.EmuConfig, r api.EmuReport) {
	t.Helper()
	if !sameReport(harness.Run(r.Script), r.Report) {
		t.Fatalf("harness.Run of the Script is not the Report: %+v", c)
	}
	w, e := harness.New(r.Script.Config)
	if e != api.OK {
		t.Fatalf("harness.New of the Script: %d", e)
	}
	entries := 0
	for _, s := range r.Script.Steps {
		w.Do(s)
		if s.Kind <= api.StepAbort {
			entries++
		}
		kinds := []int{api.StepWrite, api.StepRead, api.StepClose, api.StepAbort, api.StepTick, api.StepDeliver, api.StepDrop, api.StepJoin, api.StepPrio, api.StepLeave}
		if !slices.Contains(kinds, s.Kind) {
			t.Fatalf("a step of kind %d", s.Kind)
		}
	}
	if !sameEvents(w.Log(), r.Log) || entries != len(r.Report.Trace) || len(r.Times) != entries {
		t.Fatalf("%+v: %d events, %d entries, %d times", c, len(r.Log), entries, len(r.Times))
	}
	if !script.Fit(r.Script) {
		t.Fatalf("a Script that is not fit: %+v", r.Script)
	}
	if !slices.IsSorted(r.Times) || len(r.Times) > 0 && r.Times[len(r.Times)-1] > c.Until {
		t.Fatalf("%+v: Times %v", c, r.Times)
	}
	for path, both := range r.Links {
		for side, s := range both {
			if s.Put != s.Lost+s.Full+s.Come+uint64(s.Flying) || s.Now != r.Links[0][0].Now || s.Flying != len(w.Bag(side, path)) {
				t.Fatalf("%+v: path %d, side %d: %+v", c, path, side, s)
			}
		}
	}
}

// P24.14: with a later Until, and further acts behind the first one, all begins as it did.
func TestLaterUntil(t *testing.T) {
	for row := range rows(300) {
		d := dice(5000 + row)
		c := d.someRun(row % api.NumScheds)
		r, e := emu.Run(c)
		c2 := c
		c2.Until += uint64(d.one(0, 1, 1000, c.Tick*5000))
		c2.Plan = slices.DeleteFunc(slices.Clone(c.Plan), func(a api.Act) bool { return a.At > c.Until })
		c2.Plan = append(c2.Plan, d.somePlan(c2, c.Until+1, d.below(20))...)
		r2, e2 := emu.Run(c2)
		if e != api.OK || e2 != api.OK {
			t.Fatalf("row %d: %d, %d", row, e, e2)
		}
		steps, times, log := r2.Script.Steps, r2.Times, r2.Log
		if len(steps) < len(r.Script.Steps) || len(times) < len(r.Times) || len(log) < len(r.Log) {
			t.Fatalf("row %d: shorter", row)
		}
		if !sameSteps(steps[:len(r.Script.Steps)], r.Script.Steps) || !slices.Equal(times[:len(r.Times)], r.Times) || !sameEvents(log[:len(r.Log)], r.Log) {
			t.Fatalf("row %d: it begins otherwise", row)
		}
		if !sameEntries(r2.Report.Trace[:len(r.Times)], r.Report.Trace) {
			t.Fatalf("row %d: the Trace begins otherwise", row)
		}
	}
}

// 0.3: an experiment answers the same whenever it is made.
func TestTwice(t *testing.T) {
	for row := range rows(100) {
		d := dice(7000 + row)
		c := d.someRun(row % api.NumScheds)
		r, _ := emu.Run(c)
		emu.Run(d.someRun(0))
		again, _ := emu.Run(c)
		if !reflect.DeepEqual(r, again) {
			t.Fatalf("row %d: another answer", row)
		}
	}
}
