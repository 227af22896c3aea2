package carry_test

import (
	"bytes"
	"reflect"
	"slices"
	"testing"

	"braid/api"
	"braid/carry"
	"braid/harness"
	"braid/script"
)

// targets is the schedulers that a script can be carried over to.
var targets = []int{api.MinRtt, api.RoundRobin, api.Redundant, api.Blest, api.Single}

func open(t *testing.T, c api.Config) *harness.World {
	t.Helper()
	w, bad := harness.New(c)
	if bad != api.OK {
		t.Fatalf("%+v: %v", c, bad)
	}
	return w
}

// The steps, by their words.
func write(side int, text string) api.Step {
	return api.Step{Kind: api.StepWrite, Side: side, Data: []byte(text)}
}

func read(side, n int) api.Step { return api.Step{Kind: api.StepRead, Side: side, N: n} }

func shut(side int) api.Step { return api.Step{Kind: api.StepClose, Side: side} }

func abort(side int) api.Step { return api.Step{Kind: api.StepAbort, Side: side} }

func tick(side, ms int) api.Step { return api.Step{Kind: api.StepTick, Side: side, N: ms} }

func deliver(side, path, n int) api.Step {
	return api.Step{Kind: api.StepDeliver, Side: side, Path: path, N: n}
}

func drop(side, path, n int) api.Step {
	return api.Step{Kind: api.StepDrop, Side: side, Path: path, N: n}
}

func flush(path int) api.Step { return api.Step{Kind: api.StepFlush, Path: path} }

func isCall(s api.Step) bool {
	return s.Kind >= api.StepWrite && s.Kind <= api.StepAbort
}

// sameStep tells whether two steps are alike, an empty list and nil being one.
func sameStep(a, b api.Step) bool {
	same := bytes.Equal(a.Data, b.Data)
	a.Data, b.Data = nil, nil
	return same && reflect.DeepEqual(a, b)
}

func sameEntry(a, b api.Entry) bool {
	same := bytes.Equal(a.Data, b.Data)
	a.Data, b.Data = nil, nil
	return same && reflect.DeepEqual(a, b)
}

// callsOf is a side's calls as P16.3 has them.
func callsOf(s api.Script, side int) []api.Step {
	var l []api.Step
	for _, x := range s.Steps {
		if !isCall(x) || x.Side&1 != side {
			continue
		}
		c := api.Step{Kind: x.Kind, Side: side}
		if x.Kind == api.StepWrite {
			c.Data = x.Data
		}
		if x.Kind == api.StepRead {
			c.N = x.N
		}
		l = append(l, c)
	}
	return l
}

// rawCallsOf is a side's calls as they stand in the script.
func rawCallsOf(s api.Script, side int) []api.Step {
	var l []api.Step
	for _, x := range s.Steps {
		if isCall(x) && x.Side == side {
			l = append(l, x)
		}
	}
	return l
}

func entriesOf(l []api.Entry, side int) []api.Entry {
	var m []api.Entry
	for _, e := range l {
		if e.Side == side {
			m = append(m, e)
		}
	}
	return m
}

// plain fails unless out has what P16.2, P16.3 and P16.5 ask for.
func plain(t *testing.T, s, out api.Script, sched, paths int) {
	t.Helper()
	want := s.Config
	want.Paths, want.Sched, want.Bag, want.Weights, want.Picks = paths, sched, api.MaxBag, nil, [2][]api.Pick{}
	got := out.Config
	if len(got.Weights) != 0 || len(got.Picks[0]) != 0 || len(got.Picks[1]) != 0 {
		t.Errorf("%+v", got)
	}
	got.Weights, got.Picks = nil, [2][]api.Pick{}
	if !reflect.DeepEqual(got, want) {
		t.Errorf("configuration %+v, want %+v", got, want)
	}
	for side := range 2 {
		if a, b := callsOf(s, side), rawCallsOf(out, side); !slices.EqualFunc(a, b, sameStep) {
			t.Errorf("calls of %d: %+v, want %+v", side, b, a)
		}
	}
	if !script.Fit(out) {
		t.Errorf("not fit: %+v", out)
	}
	for _, x := range out.Steps {
		switch x.Kind {
		case api.StepDouble, api.StepSpoil, api.StepDown, api.StepUp, api.StepJoin, api.StepPrio, api.StepLeave:
			t.Errorf("%+v", x)
		}
	}
}

// agree fails unless each side has the same answers in a script as in a report, and nothing is forged.
func agree(t *testing.T, was api.Report, out api.Script) {
	t.Helper()
	is := harness.Run(out)
	if is.Forged != 0 || is.Err != api.OK {
		t.Errorf("forged %d, %v", is.Forged, is.Err)
	}
	for side := range 2 {
		a, b := entriesOf(was.Trace, side), entriesOf(is.Trace, side)
		if len(a) != len(b) {
			t.Errorf("%d entries of %d, want %d", len(b), side, len(a))
			continue
		}
		for i := range a {
			if !sameEntry(a[i], b[i]) {
				t.Errorf("over %d of %d paths: entry %d of %d: %+v, want %+v", out.Config.Sched, out.Config.Paths, i, side, b[i], a[i])
				return
			}
		}
	}
}

// carries carries a script over, fails unless that keeps all promises, and gives it.
func carries(t *testing.T, s api.Script, sched, paths int) api.Script {
	t.Helper()
	return carriesFrom(t, s, harness.Run(s), sched, paths)
}

// carriesFrom is carries of a script whose report is in hand.
func carriesFrom(t *testing.T, s api.Script, was api.Report, sched, paths int) api.Script {
	t.Helper()
	out, bad := carry.Over(s, sched, paths)
	if bad != api.OK {
		t.Fatalf("to %d, %d: %v", sched, paths, bad)
	}
	plain(t, s, out, sched, paths)
	if was.Forged == 0 {
		agree(t, was, out)
	}
	return out
}
