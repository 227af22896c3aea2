package emu_test

import (
	"bytes"
	"fmt"
	"reflect"
	"slices"
	"testing"

	"braid/api"
	"braid/emu"
)

// roomy is a list with room behind it that is full of x.
func roomy[T any](x T, l ...T) []T {
	out := slices.Clone(l)
	for range 20 {
		out = append(out, x)
	}
	return out[:len(l)]
}

// whole is a list with the room behind it.
func whole[T any](l []T) []T { return l[:cap(l)] }

func overwrite[T any](l []T, x T) {
	for i := range whole(l) {
		whole(l)[i] = x
	}
}

// 0.4: a link's patterns are neither changed nor kept.
func TestPatternsKept(t *testing.T) {
	for range 2 {
		c := api.LinkConfig{Queue: 1, Loss: roomy(true, false, true, false), Jitter: roomy(99, 3, 0, 5, 6)}
		loss, jitter := slices.Clone(whole(c.Loss)), slices.Clone(whole(c.Jitter))
		l := lay(t, c)
		l.put(0, "a", true)
		if !slices.Equal(whole(c.Loss), loss) || !slices.Equal(whole(c.Jitter), jitter) {
			t.Error("NewLink changes what is handed in")
		}
		overwrite(c.Loss, true)
		overwrite(c.Jitter, 77)
		l.put(10, "b", false)
		l.put(20, "c", true)
		l.put(30, "d", true)
		l.put(40, "e", false)
		l.put(50, "f", true)
		l.take(99, arrival(3, 0, "a"), arrival(25, 2, "c"), arrival(36, 3, "d"), arrival(50, 5, "f"))
		if c.Loss[0] != true || c.Jitter[0] != 77 {
			t.Error("it is written into")
		}
	}
}

// 0.4: a frame that is put is neither changed nor kept; one that is taken is new memory, spare room too.
func TestFramesKept(t *testing.T) {
	l := lay(t, api.LinkConfig{Rate: 1000000, Queue: 100})
	b := roomy(byte('!'), []byte("abc")...)
	kept := slices.Clone(whole(b))
	for now := range uint64(3) {
		if !l.l.Put(now, b) || !bytes.Equal(whole(b), kept) {
			t.Error("Put changes what is handed in")
		}
	}
	overwrite(b, 'z')
	first := l.l.Take(6)
	second := l.l.Take(9)
	if len(first) != 2 || len(second) != 1 {
		t.Fatalf("%v, %v", first, second)
	}
	overwrite(first[0].Bytes, 'x')
	if string(first[1].Bytes) != "abc" || string(second[0].Bytes) != "abc" || string(b) != "zzz" {
		t.Error("frames share their memory")
	}
	overwrite(first, api.Arrival{At: 5})
	overwrite(second, api.Arrival{At: 6})
	l.put(9, "d", true)
	l.take(10, arrival(10, 3, "d"))
	if first[0].At != 5 || second[0].At != 6 {
		t.Error("what was handed out is written into")
	}
}

// Two links know nothing of one another.
func TestLinksApart(t *testing.T) {
	c := api.LinkConfig{Rate: 1000, Queue: 5, Loss: []bool{false, true}, Jitter: []int{1}}
	x, y := lay(t, c), lay(t, c)
	x.put(5, "abc", true)
	x.put(5, "abc", false)
	y.is(api.LinkStat{})
	y.still()
	y.put(0, "defgh", true)
	y.take(5001, arrival(5001, 0, "defgh"))
	x.take(3006, arrival(3006, 0, "abc"))
}

// busy is an experiment whose report has all lists.
func busy() api.EmuConfig {
	c := trial(2)
	c.Conn.Sched = api.RoundRobin
	c.Conn.Weights = roomy(9, 3, 2)
	c.Conn.Picks[0] = roomy(api.Pick{Path: 7}, api.Pick{Path: 1, Off: 0, Len: 4}, api.Pick{Path: 0, Off: 4, Len: 4})
	c.Conn.Picks[1] = roomy(api.Pick{Path: 7}, api.Pick{Path: 0, Off: 1000, Len: 2})
	c.Links = roomy([2]api.LinkConfig{{Rate: -1}}, c.Links...)
	c.Links[0][1].Loss = roomy(true, false, true)
	c.Links[1][0].Jitter = roomy(88, 0, 50)
	c.Eager[1] = true
	c.Plan = roomy(api.Act{At: 1}, act(0, joins(0, 1)), act(5000, api.Step{Kind: api.StepWrite, Data: roomy(byte('!'), []byte("abcdefgh")...)}), act(5000, closes(0)), act(6000, write(1, "AB")))
	return c
}

// deep is all of a configuration, spare room too.
func deep(c api.EmuConfig) string {
	s := fmt.Sprintf("%+v %v %v %v %v ", c, whole(c.Conn.Weights), whole(c.Conn.Picks[0]), whole(c.Conn.Picks[1]), whole(c.Links))
	for _, both := range c.Links {
		for _, l := range both {
			s += fmt.Sprint(whole(l.Loss), whole(l.Jitter), " ")
		}
	}
	for _, a := range whole(c.Plan) {
		s += fmt.Sprint(a, whole(a.Step.Data), " ")
	}
	return s
}

func overwriteConfig(c api.EmuConfig) {
	overwrite(c.Conn.Weights, 200)
	overwrite(c.Conn.Picks[0], api.Pick{Path: 5})
	overwrite(c.Conn.Picks[1], api.Pick{Path: 5})
	for _, a := range c.Plan {
		overwrite(a.Step.Data, '?')
	}
	overwrite(c.Plan, api.Act{})
	for _, both := range c.Links {
		for _, l := range both {
			overwrite(l.Loss, true)
			overwrite(l.Jitter, -5)
		}
	}
	overwrite(c.Links, [2]api.LinkConfig{})
}

// 0.4: an experiment is neither changed nor kept.
func TestExperimentKept(t *testing.T) {
	want, e := emu.Run(busy())
	if e != api.OK || len(want.Log) < 10 || len(want.Report.Trace) < 5 {
		t.Fatalf("%+v, %d", want, e)
	}
	c := busy()
	before := deep(c)
	if emu.Fit(c) != api.OK || deep(c) != before {
		t.Error("Fit changes what is handed in")
	}
	r, _ := emu.Run(c)
	if deep(c) != before {
		t.Error("Run changes what is handed in")
	}
	overwriteConfig(c)
	if !reflect.DeepEqual(r, want) {
		t.Errorf("the report hangs on what was handed in: %+v", r)
	}
}

// 0.4: a report is new memory, spare room too, and no two of its lists share any.
func TestReportKept(t *testing.T) {
	want, _ := emu.Run(busy())
	for i, spoil := range []func(r *api.EmuReport){
		func(r *api.EmuReport) { overwrite(r.Script.Config.Weights, 5); r.Script.Config.Weights = nil },
		func(r *api.EmuReport) {
			overwrite(r.Script.Config.Picks[0], api.Pick{Off: 5})
			r.Script.Config.Picks[0] = nil
		},
		func(r *api.EmuReport) {
			overwrite(r.Script.Config.Picks[1], api.Pick{Off: 5})
			r.Script.Config.Picks[1] = nil
		},
		func(r *api.EmuReport) {
			for _, s := range r.Script.Steps {
				overwrite(s.Data, '?')
			}
			overwrite(r.Script.Steps, api.Step{Kind: 99})
			r.Script.Steps = nil
		},
		func(r *api.EmuReport) {
			for _, s := range r.Report.Trace {
				overwrite(s.Data, '?')
			}
			overwrite(r.Report.Trace, api.Entry{Op: 99})
			r.Report.Trace = nil
		},
		func(r *api.EmuReport) {
			overwrite(r.Report.Stats[0].Paths, api.PathStat{State: 99})
			r.Report.Stats[0].Paths = nil
		},
		func(r *api.EmuReport) {
			overwrite(r.Report.Stats[1].Paths, api.PathStat{State: 99})
			r.Report.Stats[1].Paths = nil
		},
		func(r *api.EmuReport) { overwrite(r.Times, 99); r.Times = nil },
		func(r *api.EmuReport) { overwrite(r.Links, [2]api.LinkStat{{Now: 99}}); r.Links = nil },
		func(r *api.EmuReport) {
			for _, s := range r.Log {
				overwrite(s.Bytes, '?')
			}
			overwrite(r.Log, api.Event{What: 99})
			r.Log = nil
		},
	} {
		r, _ := emu.Run(busy())
		rest, _ := emu.Run(busy())
		spoil(&r)
		// The same lists are left out of what is awaited.
		spoil(&rest)
		left := want
		keep(&left, rest)
		if !reflect.DeepEqual(r, left) {
			t.Errorf("list %d shares its memory", i)
		}
	}
	again, _ := emu.Run(busy())
	if !reflect.DeepEqual(again, want) {
		t.Error("another report has changed")
	}
}

// keep leaves out of a report the list that another one has not.
func keep(r *api.EmuReport, like api.EmuReport) {
	if like.Script.Config.Weights == nil {
		r.Script.Config.Weights = nil
	}
	for side := range 2 {
		if like.Script.Config.Picks[side] == nil {
			r.Script.Config.Picks[side] = nil
		}
		if like.Report.Stats[side].Paths == nil {
			r.Report.Stats[side].Paths = nil
		}
	}
	if like.Script.Steps == nil {
		r.Script.Steps = nil
	}
	if like.Report.Trace == nil {
		r.Report.Trace = nil
	}
	if like.Times == nil {
		r.Times = nil
	}
	if like.Links == nil {
		r.Links = nil
	}
	if like.Log == nil {
		r.Log = nil
	}
}
