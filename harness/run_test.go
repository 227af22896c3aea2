package harness_test

import (
	"math"
	"reflect"
	"runtime"
	"sync"
	"testing"
	"time"

	"braid/api"
	"braid/harness"
)

// P15.5, P15.8: Run tells what a World tells behind the same steps.
func TestRunIsAWorld(t *testing.T) {
	steps := []api.Step{
		joins(api.StepJoin, 0, 1, false), flush(1), write(0, "abcdefghijklmnop"), write(1, "AB"), spoil(0, 0, 0, 20, 1), flush(0), flush(1),
		read(1, 9), tick(0, 1000), flush(1), flush(0), read(1, 99), read(0, 99), atSide(api.StepClose, 0), flush(0), read(1, 5), {Kind: 44},
	}
	for sched := range api.NumScheds {
		c := with(func(c *api.Config) { c.Sched, c.Bag = sched, 100 })
		r := harness.Run(api.Script{Config: c, Steps: steps})
		w := open(t, c, steps...)
		if !reflect.DeepEqual(r, api.Report{Trace: w.Trace(), Stats: [2]api.Stat{w.Stat(0), w.Stat(1)}, Forged: w.Forged()}) {
			t.Errorf("scheduler %d: %+v", sched, r)
		}
		if len(r.Trace) != 7 || r.Stats[0].Clock != 1000 {
			t.Errorf("scheduler %d: %+v", sched, r)
		}
	}
	r := harness.Run(api.Script{Config: config()})
	w := open(t, config())
	if r.Err != api.OK || len(r.Trace) != 0 || !reflect.DeepEqual(r.Stats, [2]api.Stat{w.Stat(0), w.Stat(1)}) {
		t.Errorf("no steps: %+v", r)
	}
}

// P15.5: Forged is Run's too.
func TestRunForged(t *testing.T) {
	w := open(t, config(), write(0, "abcd"))
	var steps []api.Step
	forge(t, w, 0, api.Frame{Kind: api.KindData, Data: []byte("wxyz")})
	before, after := w.Log()[0].Bytes, w.Bag(0, 0)[0].Bytes
	steps = append(steps, write(0, "abcd"))
	for i := range before {
		steps = append(steps, spoil(0, 0, 0, i, before[i]^after[i]))
	}
	steps = append(steps, flush(0), read(1, 9))
	if r := harness.Run(api.Script{Config: config(), Steps: steps}); r.Forged != 1 || string(r.Trace[1].Data) != "wxyz" {
		t.Errorf("%+v", r)
	}
}

// P15.5: one script many times, one behind the other and at once: all answers are alike.
func TestRunAgain(t *testing.T) {
	d := dice(5)
	for sched := range api.NumScheds {
		s := someScript(&d, sched, 120)
		want := harness.Run(s)
		var group sync.WaitGroup
		for range 8 {
			group.Add(1)
			go func() {
				defer group.Done()
				for range 5 {
					if got := harness.Run(s); !reflect.DeepEqual(got, want) {
						t.Errorf("scheduler %d: %+v, want %+v", sched, got, want)
					}
				}
			}()
		}
		group.Wait()
	}
}

// P15.5: the sides have ended when Run answers.
func TestRunLeavesNobody(t *testing.T) {
	s := api.Script{Config: config(), Steps: []api.Step{write(0, "abcd"), flush(0), read(1, 9)}}
	harness.Run(s)
	before := runtime.NumGoroutine()
	for range 200 {
		harness.Run(s)
		harness.Run(api.Script{})
		harness.Play("write a \"x\"\nflush 0")
	}
	// A goroutine that has told its end may still be on its way out for a moment.
	for range 2000 {
		if runtime.NumGoroutine() <= before {
			return
		}
		time.Sleep(time.Millisecond)
	}
	t.Errorf("%d goroutines, ahead of it %d", runtime.NumGoroutine(), before)
}

// P15.6: Up, and each round's five steps.
func TestCalm(t *testing.T) {
	s := api.Script{Config: config(), Steps: []api.Step{write(1, "x"), {Kind: 77, Path: -4}}}
	for _, path := range []int{0, 1, 2, -1, 8, math.MaxInt, math.MinInt} {
		for _, rounds := range []int{0, 1, 2, 17} {
			got := harness.Calm(s, path, rounds)
			want := append([]api.Step{}, s.Steps...)
			want = append(want, api.Step{Kind: api.StepUp, Path: path})
			for range rounds {
				want = append(want, flush(path), read(0, 65536), read(1, 65536), tick(0, 60000), tick(1, 60000))
			}
			if !reflect.DeepEqual(got, api.Script{Config: s.Config, Steps: want}) {
				t.Errorf("Calm(%d, %d): %+v", path, rounds, got)
			}
		}
	}
	for _, x := range []struct{ rounds, want int }{{-1, 0}, {math.MinInt, 0}, {65535, 65535}, {65536, 65536}, {65537, 65536}, {math.MaxInt, 65536}} {
		got := harness.Calm(s, 1, x.rounds).Steps
		if len(got) != 3+5*x.want {
			t.Errorf("%d rounds: %d steps", x.rounds, len(got))
		}
		if x.want > 0 && !reflect.DeepEqual(got[len(got)-5], flush(1)) || got[2].Kind != api.StepUp {
			t.Errorf("%d rounds: %+v", x.rounds, got[len(got)-5:])
		}
	}
	// A configuration that may not be is a script's like any other.
	if got := harness.Calm(api.Script{}, 0, -5); len(got.Steps) != 1 || !reflect.DeepEqual(got.Config, api.Config{}) {
		t.Errorf("%+v", got)
	}
}

// P15.6: a calm round is one: what was written is read behind it, and the clocks go on.
func TestCalmRound(t *testing.T) {
	for sched := range api.NumScheds {
		if sched == api.Replay {
			continue
		}
		c := with(func(c *api.Config) { c.Sched, c.Bag = sched, 2048 })
		s := api.Script{Config: c, Steps: []api.Step{write(0, "abcd"), write(1, "AB"), onPath(api.StepDown, 0)}}
		r := harness.Run(harness.Calm(s, 0, 1))
		if string(r.Trace[2].Data) != "AB" || string(r.Trace[3].Data) != "abcd" || r.Stats[0].Clock != 60000 || r.Stats[1].Clock != 60000 {
			t.Errorf("scheduler %d: %+v", sched, r)
		}
	}
}
