package harness_test

import (
	"reflect"
	"testing"

	"braid/api"
	"braid/harness"
)

// scribble writes over bytes and their spare room.
func scribble(b []byte) {
	b = b[:cap(b)]
	for i := range b {
		b[i] ^= 0x5a
	}
}

func scribbleEntries(l []api.Entry) {
	l = l[:cap(l)]
	for i := range l {
		scribble(l[i].Data)
		l[i] = api.Entry{Side: 9, Op: 9}
	}
}

func scribbleStat(s api.Stat) {
	l := s.Paths[:cap(s.Paths)]
	for i := range l {
		l[i] = api.PathStat{State: 99}
	}
}

// scribbleAll writes over all that a world hands out.
func scribbleAll(w *harness.World) {
	scribbleEntries(w.Trace())
	log := w.Log()
	log = log[:cap(log)]
	for i := range log {
		scribble(log[i].Bytes)
		log[i] = api.Event{What: 99}
	}
	for side := range 2 {
		scribbleStat(w.Stat(side))
		for path := range 2 {
			bag := w.Bag(side, path)
			bag = bag[:cap(bag)]
			for i := range bag {
				scribble(bag[i].Bytes)
				bag[i] = api.Parcel{Spoilt: true}
			}
		}
	}
}

// 0.4: what is handed out is new memory: who writes to it changes nothing, now or later.
func TestHandedOut(t *testing.T) {
	steps := []api.Step{
		joins(api.StepJoin, 0, 1, false), flush(1), write(0, "abcdefghij"), spoil(0, 0, 0, 3, 1), {Kind: api.StepDouble, N: 1}, deliver(0, 0, 1), {Kind: api.StepDrop},
		flush(0), read(1, 3), read(1, 9), tick(0, 1000), flush(0), read(1, 9), write(1, "AB"), flush(1), flush(0), read(0, 9), atSide(api.StepClose, 0),
	}
	for _, sched := range []int{api.RoundRobin, api.Single} {
		c := with(func(c *api.Config) { c.Sched, c.Bag = sched, 50 })
		w, v := open(t, c), open(t, c)
		for _, s := range steps {
			w.Do(s)
			v.Do(s)
			scribbleAll(w)
			if !reflect.DeepEqual(lookAt(w), lookAt(v)) {
				t.Fatalf("%+v: something has changed", s)
			}
		}
	}
}

// handed is a script whose lists have spare room, with something in it.
func handed() api.Script {
	spare := func(text string) []byte { return append([]byte(text), "spare"...)[:len(text)] }
	c := with(func(c *api.Config) {
		c.Bag, c.Sched = 50, api.Replay
		c.Weights = []int{3, 2, 99}[:2]
		for side := range c.Picks {
			base := c.Base[side]
			c.Picks[side] = []api.Pick{{Path: 0, Off: base, Len: 4}, {Path: 1, Off: base + 4, Len: 2}, {Path: 0, Off: base + 4, Len: 2}, {Path: 5}}[:3]
		}
	})
	steps := []api.Step{{Kind: api.StepWrite, Data: spare("abcdef")}, {Kind: api.StepWrite, Side: 1, Data: spare("ABCD")}, flush(0), {Kind: api.StepRead, Side: 1, N: 9, Data: spare("no")}, read(0, 9)}
	return api.Script{Config: c, Steps: append(steps, api.Step{Kind: 99})[:len(steps)]}
}

// whole is a script with the spare room of its lists in sight.
func whole(s api.Script) api.Script {
	s.Config.Weights = s.Config.Weights[:cap(s.Config.Weights)]
	for i, l := range s.Config.Picks {
		s.Config.Picks[i] = l[:cap(l)]
	}
	s.Steps = append([]api.Step{}, s.Steps[:cap(s.Steps)]...)
	for i, x := range s.Steps {
		s.Steps[i].Data = x.Data[:cap(x.Data)]
	}
	return s
}

// spoilScript writes over all of a script's memory.
func spoilScript(s api.Script) {
	for i := range s.Config.Weights[:cap(s.Config.Weights)] {
		s.Config.Weights[:cap(s.Config.Weights)][i] = -1
	}
	for _, l := range s.Config.Picks {
		l = l[:cap(l)]
		for i := range l {
			l[i] = api.Pick{Path: 99}
		}
	}
	steps := s.Steps[:cap(s.Steps)]
	for i := range steps {
		scribble(steps[i].Data)
		steps[i] = api.Step{Kind: 99}
	}
}

// 0.4: what is handed in is not changed, nor its spare room, and not kept.
func TestHandedIn(t *testing.T) {
	want := harness.Run(handed())
	if len(want.Trace) != 4 || string(want.Trace[2].Data) != "abcdef" || string(want.Trace[3].Data) != "ABCD" {
		t.Fatalf("%+v", want)
	}
	s := handed()
	r := harness.Run(s)
	if !reflect.DeepEqual(whole(s), whole(handed())) {
		t.Error("Run has changed its script")
	}
	spoilScript(s)
	if !reflect.DeepEqual(r, want) {
		t.Error("Run's report hangs on its script")
	}
	scribbleEntries(r.Trace)
	scribbleStat(r.Stats[0])
	scribbleStat(r.Stats[1])
	if !reflect.DeepEqual(harness.Run(handed()), want) {
		t.Error("Run answers otherwise")
	}

	s = handed()
	w := open(t, s.Config)
	spoilScript(api.Script{Config: s.Config})
	for _, x := range s.Steps {
		w.Do(x)
		scribble(x.Data)
	}
	if !sameEntries(w.Trace(), want.Trace) || !reflect.DeepEqual([2]api.Stat{w.Stat(0), w.Stat(1)}, want.Stats) {
		t.Error("a world hangs on what it was handed")
	}
}

// P15.6, 0.4: Calm's script shares nothing with the one that it was made of.
func TestCalmKeepsNothing(t *testing.T) {
	want := harness.Calm(handed(), 0, 3)
	s := handed()
	got := harness.Calm(s, 0, 3)
	if !reflect.DeepEqual(whole(s), whole(handed())) {
		t.Error("Calm has changed its script")
	}
	spoilScript(s)
	if !reflect.DeepEqual(got, want) {
		t.Error("Calm's script hangs on the one that it was handed")
	}
	s = handed()
	spoilScript(harness.Calm(s, 0, 3))
	if !reflect.DeepEqual(whole(s), whole(handed())) {
		t.Error("the script hangs on Calm's")
	}
}
