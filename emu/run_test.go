package emu_test

import (
	"slices"
	"strings"
	"testing"

	"braid/api"
	"braid/emu"
	"braid/script"
)

// Short words for what an experiment is made of.

func write(side int, text string) api.Step {
	return api.Step{Kind: api.StepWrite, Side: side, Data: []byte(text)}
}

func read(side, n int) api.Step { return api.Step{Kind: api.StepRead, Side: side, N: n} }

func closes(side int) api.Step { return api.Step{Kind: api.StepClose, Side: side} }

func aborts(side int) api.Step { return api.Step{Kind: api.StepAbort, Side: side} }

func joins(side, path int) api.Step { return api.Step{Kind: api.StepJoin, Side: side, Path: path} }

func prio(side, path int) api.Step { return api.Step{Kind: api.StepPrio, Side: side, Path: path} }

// run is an experiment that was made.
type run struct {
	t *testing.T
	r api.EmuReport
}

// makes makes an experiment that may be, and holds it against the book.
func makes(t *testing.T, c api.EmuConfig) run {
	t.Helper()
	r, e := emu.Run(c)
	if e != api.OK {
		t.Fatalf("Run: %d", e)
	}
	m := newBook(t, c)
	m.play()
	if what := sameRun(r, m.report()); what != "" {
		t.Errorf("%s of %+v, want %+v", what, r, m.report())
	}
	isScript(t, c, r)
	return run{t, r}
}

// steps awaits these steps as script.Print tells them, with / between.
func (c run) steps(want string) {
	c.t.Helper()
	lines := strings.Split(strings.TrimSuffix(script.Print(c.r.Script), "\n"), "\n")
	// What stands ahead of the steps ends with B's base.
	first := slices.IndexFunc(lines, func(l string) bool { return strings.HasPrefix(l, "base b") }) + 1
	if got := strings.Join(lines[first:], " / "); got != want {
		c.t.Errorf("steps: %s\nwant: %s", got, want)
	}
}

func (c run) times(want ...uint64) {
	c.t.Helper()
	if !slices.Equal(c.r.Times, want) {
		c.t.Errorf("Times %v, want %v", c.r.Times, want)
	}
}

// reads is what a side has read, with " end" where it was told.
func (c run) reads(side int, want ...string) {
	c.t.Helper()
	var got []string
	for _, e := range c.r.Report.Trace {
		if e.Op == api.StepRead && e.Side == side {
			got = append(got, string(e.Data)+map[bool]string{true: " end"}[e.End])
		}
	}
	if !slices.Equal(got, want) {
		c.t.Errorf("reads of %d: %q, want %q", side, got, want)
	}
}

// now awaits the last moment, as each link has it.
func (c run) now(want uint64) {
	c.t.Helper()
	for path, both := range c.r.Links {
		for side, s := range both {
			if s.Now != want {
				c.t.Errorf("path %d, side %d: Now %d, want %d", path, side, s.Now, want)
			}
		}
	}
}

// The chapter's example 6, and what its report says beside.
func TestExampleRun(t *testing.T) {
	l := api.LinkConfig{Delay: 1000, Queue: 100}
	c := api.EmuConfig{Tick: 10, Until: 20000, Eager: [2]bool{true, true}, Links: [][2]api.LinkConfig{{l, l}}}
	c.Conn = api.Config{Paths: 1, Mss: 4, SendBuf: 20, RecvBuf: 20, Gaps: 1, Retries: 1, Bag: 1, Keys: [2]uint64{7, 9}}
	c.Plan = []api.Act{act(0, write(0, "abcde")), act(0, closes(0))}
	r := makes(t, c)
	r.steps(`write a "abcde" / close a / deliver a 0 0 / read b 65536 / deliver a 0 0 / read b 65536 / deliver a 0 0 / read b 65536` +
		strings.Repeat(" / deliver b 0 0", 8) + " / tick a 10 / tick b 10 / tick a 10 / tick b 10")
	r.times(0, 0, 1000, 1000, 1000)
	r.reads(1, "abcd", "e", " end")
	r.now(20000)
	if want := [][2]api.LinkStat{{{Now: 20000, Put: 3, Come: 3}, {Now: 20000, Busy: 1000, Put: 8, Come: 8}}}; !slices.Equal(r.r.Links, want) {
		t.Errorf("Links %+v, want %+v", r.r.Links, want)
	}
	if len(r.r.Log) != 22 {
		t.Errorf("%d events", len(r.r.Log))
	}
	if s := r.r.Report.Stats; s[0].Acked != 6 || s[1].Next != 6 || s[0].Clock != 20 || s[1].Clock != 20 {
		t.Errorf("Stats %+v", s)
	}
	w := r.r.Report.Trace[0]
	if string(w.Data) != "abcde" || w.N != 5 || w.Op != api.StepWrite || r.r.Report.Trace[1].Op != api.StepClose {
		t.Errorf("Trace %+v", r.r.Report.Trace)
	}
	if s := r.r.Script.Config; s.Bag != 1<<30 || s.Paths != 1 || s.Keys != c.Conn.Keys || s.RecvBuf != 20 {
		t.Errorf("Config %+v", s)
	}
}

// P24.11: a plan of nothing, Until 0, ahead of the first tick, at it, and behind it.
func TestNothingPlanned(t *testing.T) {
	for _, x := range []struct {
		until uint64
		now   uint64
		steps string
	}{
		{0, 0, ""}, {9999, 0, ""}, {10000, 10000, "tick a 10 / tick b 10"}, {19999, 10000, "tick a 10 / tick b 10"},
		{20000, 20000, "tick a 10 / tick b 10 / tick a 10 / tick b 10"},
	} {
		c := trial(2)
		c.Until = x.until
		r := makes(t, c)
		r.steps(x.steps)
		r.times()
		r.now(x.now)
		if len(r.r.Links) != 2 || len(r.r.Log) != 0 {
			t.Errorf("Until %d: %+v", x.until, r.r)
		}
	}
	// As many ticks as may be, and the greatest one.
	c := trial(1)
	c.Tick, c.Until = 1, 65536999
	r := makes(t, c)
	r.now(65536000)
	// Both sides probe the quiet path.
	if s := r.r.Report.Stats; s[0].Clock != 65536 || s[1].Clock != 65536 || s[0].Err != api.OK || len(r.r.Log) == 0 {
		t.Errorf("Stats %+v", s)
	}
	c.Tick, c.Until = 60000, 60000000
	r = makes(t, c)
	r.now(60000000)
}

// P24.11: what is due at Until is played, what is due behind it is not: acts, arrivals, ticks.
func TestUntil(t *testing.T) {
	c := trial(1)
	c.Plan = []api.Act{act(0, write(0, "a")), act(500, write(0, "b")), act(501, closes(0))}
	for _, x := range []struct {
		until, now uint64
		steps      string
		times      int
	}{
		{0, 0, `write a "a"`, 1},
		{499, 0, `write a "a"`, 1},
		{500, 500, `write a "a" / write a "b"`, 2},
		{501, 501, `write a "a" / write a "b" / close a`, 3},
		{999, 501, `write a "a" / write a "b" / close a`, 3},
		{1000, 1000, `write a "a" / write a "b" / close a / deliver a 0 0`, 3},
	} {
		c.Until = x.until
		r := makes(t, c)
		r.steps(x.steps)
		r.times([]uint64{0, 500, 501}[:x.times]...)
		r.now(x.now)
	}
	// No act at 0, and none ahead of Until.
	c.Plan = c.Plan[1:]
	c.Until = 0
	r := makes(t, c)
	r.steps("")
	c.Plan = []api.Act{act(^uint64(0), closes(0))}
	c.Until = 10000
	r = makes(t, c)
	r.steps("tick a 10 / tick b 10")
}

// P24.11: at a moment the acts come first, all of them, then what comes, then A's tick, and what comes of it, then B's.
func TestMoment(t *testing.T) {
	c := trial(1)
	for from := range 2 {
		c.Links[0][from].Delay = 0
	}
	c.Tick, c.Until = 10000, 10000000
	c.Plan = []api.Act{act(10000000, write(0, "a")), act(10000000, write(1, "b"))}
	r := makes(t, c)
	// Of path 0 what A has sent comes ahead of all that B has sent: the DATA, and the answers to B's.
	const acts = `write a "a" / write b "b" / deliver a 0 0 / deliver b 0 0 / deliver a 0 0 / deliver a 0 0 / deliver b 0 0 / deliver b 0 0`
	// Each probes at its tick, as nothing was sent for so long by its clock, and is answered by an ACK and a DACK at once.
	const ticks = `tick a 10000 / deliver a 0 0 / deliver b 0 0 / deliver b 0 0 / tick b 10000 / deliver b 0 0 / deliver a 0 0 / deliver a 0 0`
	r.steps(acts + " / " + ticks)
	c.Plan = nil
	r = makes(t, c)
	r.steps(ticks)
	// What comes at a tick's moment comes ahead of the tick; what a tick sends comes later.
	for from := range 2 {
		c.Links[0][from].Delay = 1000
	}
	c.Tick, c.Until = 1, 3000
	c.Plan = []api.Act{act(1000, write(0, "a")), act(2000, write(1, "b"))}
	r = makes(t, c)
	r.steps(`write a "a" / tick a 1 / tick b 1 / write b "b" / deliver a 0 0 / tick a 1 / tick b 1 / deliver b 0 0 / deliver b 0 0 / deliver b 0 0 / tick a 1 / tick b 1`)
	// Time 0 is a multiple of all, and no tick.
	c.Until = 0
	c.Plan = []api.Act{act(0, write(0, "a"))}
	r = makes(t, c)
	r.steps(`write a "a"`)
}

// P24.11: of several frames that have come the one on the lowest path comes first, of one path the one from A, of one link the one that came first.
func TestWhichFirst(t *testing.T) {
	c := trial(2)
	c.Plan = []api.Act{act(0, joins(0, 1)), act(8000, prio(1, 1)), act(8000, prio(0, 1)), act(8000, prio(1, 0)), act(8000, prio(0, 0))}
	c.Until = 9000
	r := makes(t, c)
	r.steps(`join a 1 off / deliver a 1 0 / deliver b 1 0 / deliver a 1 0` +
		` / prio b 1 off / prio a 1 off / prio b 0 off / prio a 0 off / deliver a 0 0 / deliver b 0 0 / deliver a 1 0 / deliver b 1 0`)
	// What comes on a lower path by what was heard on a higher one is heard ahead of what lies there.
	c = trial(2)
	for path := range 2 {
		for from := range 2 {
			c.Links[path][from].Delay = 0
		}
	}
	c.Links[1][0].Delay = 1000
	c.Plan = []api.Act{act(0, joins(0, 1)), act(5000, prio(0, 1)), act(5000, prio(0, 1)), act(6000, write(1, "abcdefgh")), act(6000, prio(0, 0))}
	c.Until = 6000
	r = makes(t, c)
	r.steps(`join a 1 off / deliver a 1 0 / deliver b 1 0 / deliver a 1 0 / prio a 1 off / prio a 1 off / write b "abcdefgh" / prio a 0 off` +
		` / deliver a 0 0 / deliver b 0 0 / deliver a 0 0 / deliver a 0 0 / deliver b 0 0 / deliver a 0 0 / deliver a 0 0 / deliver a 1 0 / deliver a 1 0`)
}

// P24.11: of one link frames come by their times, of one time by their numbers; the step names the place in the bag.
func TestOutOfTurn(t *testing.T) {
	c := trial(1)
	c.Eager[1] = true
	c.Links[0][0] = api.LinkConfig{Queue: 1000, Jitter: []int{3000, 1000, 2000, 1000}}
	c.Plan = []api.Act{act(0, write(0, "abcdefghijklmnop"))}
	c.Until = 3000
	r := makes(t, c)
	// The frames 0 to 3 come as 1, 3, 2, 0: at the places 1, 2, 1, 0.
	r.steps(`write a "abcdefghijklmnop" / deliver a 0 1 / deliver a 0 2 / deliver a 0 1 / deliver b 0 0 / deliver b 0 0 / deliver b 0 0 / deliver b 0 0` +
		` / deliver a 0 0 / read b 65536 / deliver b 0 0 / deliver b 0 0`)
	r.times(0, 3000)
	r.reads(1, "abcdefghijklmnop")
	if s := r.r.Report.Trace[1]; s.N != 65536 || s.Side != 1 {
		t.Errorf("%+v", s)
	}
	// A later frame that comes at the same time comes behind.
	c.Links[0][0] = api.LinkConfig{Queue: 1000, Jitter: []int{500, 400}}
	c.Plan = []api.Act{act(0, write(0, "abcd")), act(100, write(0, "efgh"))}
	c.Until = 500
	r = makes(t, c)
	r.steps(`write a "abcd" / write a "efgh" / deliver a 0 0 / read b 65536 / deliver a 0 0 / read b 65536`)
	r.reads(1, "abcd", "efgh")
	r.times(0, 100, 500, 500)
}

// P24.11: who is not Eager reads nothing by itself.
func TestNotEager(t *testing.T) {
	for eager := range 4 {
		c := trial(1)
		c.Eager = [2]bool{eager&1 == 1, eager&2 == 2}
		c.Plan = []api.Act{act(0, write(0, "ab")), act(0, closes(0)), act(0, write(1, "cd")), act(0, closes(1))}
		c.Until = 9000
		r := makes(t, c)
		for side := range 2 {
			want := []string{[]string{"cd", "ab"}[side], " end"}
			if !c.Eager[side] {
				want = nil
			}
			r.reads(side, want...)
		}
	}
}

// P24.11: the end is told once, whoever has asked: the Read of a delivery, or one of the plan. With bytes ahead of it that come last, it is told by a later delivery.
func TestEndOnce(t *testing.T) {
	late := func(plan ...api.Act) api.EmuConfig {
		c := trial(1)
		c.Eager[1] = true
		// The DATA comes behind the end.
		c.Links[0][0].Jitter = []int{500, 0, 0, 0, 0, 0, 0}
		c.Plan = append([]api.Act{act(0, write(0, "ab")), act(0, closes(0))}, plan...)
		c.Until = 9000
		return c
	}
	prios := []api.Act{act(4000, prio(0, 0)), act(5500, prio(0, 0)), act(7000, prio(0, 0))}
	const first = `write a "ab" / close a / deliver a 0 1 / deliver a 0 0 / read b 65536 / deliver b 0 0 / deliver b 0 0 / deliver b 0 0 / deliver b 0 0 / deliver b 0 0`
	r := makes(t, late(prios...))
	r.steps(first + ` / prio a 0 off / deliver a 0 0 / read b 65536 / prio a 0 off / deliver a 0 0 / prio a 0 off / deliver a 0 0`)
	r.reads(1, "ab", " end")
	r.times(0, 0, 1500, 5000)
	for _, n := range []int{9, 1, 0, -1, -1 << 63} {
		r = makes(t, late(append([]api.Act{act(3900, read(1, n))}, prios...)...))
		if got := r.r.Report.Trace; len(got) != 4 || !got[3].End || got[3].N != n {
			t.Errorf("Read of %d: %+v", n, got)
		}
		r.times(0, 0, 1500, 3900)
	}
	// The other side's Read tells this one nothing.
	r = makes(t, late(append([]api.Act{act(3900, read(0, 9))}, prios...)...))
	r.reads(1, "ab", " end")
	r.times(0, 0, 1500, 3900, 5000)
	// A Read ahead of the end has told nothing.
	r = makes(t, late(append([]api.Act{act(0, read(1, 9)), act(1200, read(1, 9))}, prios...)...))
	r.reads(1, "", "", "ab", " end")
	// One side's end is not the other one's.
	c := trial(1)
	c.Eager = [2]bool{true, true}
	c.Plan = []api.Act{act(0, closes(0)), act(3000, closes(1))}
	r = makes(t, c)
	r.reads(0, " end")
	r.reads(1, " end")
	r.times(0, 1000, 3000, 4000)
}

// P24.11: who is in error reads nothing by itself, whatever there would be.
func TestInError(t *testing.T) {
	c := trial(1)
	c.Eager = [2]bool{true, true}
	c.Links[0][0].Jitter = []int{500, 0, 0, 0, 0, 0, 0}
	c.Plan = []api.Act{act(0, write(0, "ab")), act(0, closes(0)), act(2000, aborts(1)), act(2100, prio(0, 0)), act(2200, read(1, 5))}
	c.Until = 9000
	r := makes(t, c)
	r.reads(1, "ab", "")
	r.reads(0)
	if s := r.r.Report.Stats; s[1].Err != api.ErrAborted || s[0].Err != api.ErrReset {
		t.Errorf("errors %d, %d", s[0].Err, s[1].Err)
	}
	// Bytes that lie there when the side is in error.
	c.Links[0][0].Jitter = nil
	c.Plan = []api.Act{act(0, write(0, "abcdefgh")), act(999, aborts(1))}
	r = makes(t, c)
	r.reads(1)
	// An RST that comes, with bytes that were not read.
	c.Eager[1] = false
	c.Plan = []api.Act{act(0, write(0, "ab")), act(3000, aborts(0))}
	r = makes(t, c)
	r.reads(1)
	c.Eager[1] = true
	c.Links[0][0].Jitter = []int{500, 0, 0, 0, 0}
	c.Plan = []api.Act{act(0, write(0, "ab")), act(0, closes(0)), act(3000, aborts(0))}
	r = makes(t, c)
	r.reads(1, "ab")
	if r.r.Report.Stats[1].Err != api.ErrReset {
		t.Errorf("B's error: %d", r.r.Report.Stats[1].Err)
	}
}

// P24.11: a frame that its link does not take is dropped at once, from its place in the bag.
func TestDropped(t *testing.T) {
	c := trial(1)
	c.Until = 1000
	c.Plan = []api.Act{act(0, write(0, "abcdefghijkl"))}
	for _, x := range []struct {
		loss  []bool
		steps string
	}{
		{[]bool{true, false, false}, ` / drop a 0 0 / deliver a 0 0 / deliver a 0 0`},
		{[]bool{false, true, false}, ` / drop a 0 1 / deliver a 0 0 / deliver a 0 0`},
		{[]bool{false, false, true}, ` / drop a 0 2 / deliver a 0 0 / deliver a 0 0`},
		{[]bool{true, true, false}, ` / drop a 0 0 / drop a 0 0 / deliver a 0 0`},
		{[]bool{false, true, true}, ` / drop a 0 1 / drop a 0 1 / deliver a 0 0`},
		{[]bool{true}, ` / drop a 0 0 / drop a 0 0 / drop a 0 0`},
	} {
		c.Links[0][0].Loss = x.loss
		r := makes(t, c)
		r.steps(`write a "abcdefghijkl"` + x.steps)
		lost := uint64(strings.Count(x.steps, "drop"))
		if s := r.r.Links[0][0]; s.Lost != lost || s.Put != 3 || s.Full != 0 || s.Flying != 0 || s.Come != 3-lost {
			t.Errorf("%v: %+v", x.loss, s)
		}
	}
	// For want of room: the DATA has 28 bytes each.
	c.Links[0][0] = api.LinkConfig{Rate: 28000, Delay: 1000, Queue: 56}
	c.Until = 4000
	r := makes(t, c)
	r.steps(`write a "abcdefghijkl" / drop a 0 2 / deliver a 0 0 / deliver a 0 0 / deliver b 0 0 / deliver b 0 0 / deliver b 0 0 / deliver b 0 0`)
	if s := r.r.Links[0][0]; s != (api.LinkStat{Now: 4000, Busy: 2000, Put: 3, Full: 1, Come: 2}) {
		t.Errorf("%+v", s)
	}
	// An answer is dropped ahead of the Read that follows.
	c.Eager[1] = true
	c.Links[0] = [2]api.LinkConfig{hop(), {Delay: 1000, Queue: 1000, Loss: []bool{false, true}}}
	c.Plan = []api.Act{act(0, write(0, "a"))}
	c.Until = 2000
	r = makes(t, c)
	r.steps(`write a "a" / deliver a 0 0 / drop b 0 1 / read b 65536 / deliver b 0 0 / deliver b 0 0`)
}

// P24.12: each link's Stat has the experiment's last moment for its Now, also when it was used ahead of that.
func TestLastMoment(t *testing.T) {
	c := trial(2)
	c.Links[0][0] = api.LinkConfig{Rate: 1000, Delay: 1 << 30, Queue: 1000}
	c.Plan = []api.Act{act(0, write(0, "abcdefgh"))}
	for _, x := range []struct {
		until uint64
		stat  api.LinkStat
	}{
		{9999, api.LinkStat{Busy: 56000, Put: 2, Waiting: 56, Flying: 2}},
		{10000, api.LinkStat{Now: 10000, Busy: 56000, Put: 2, Waiting: 56, Flying: 2}},
		{29999, api.LinkStat{Now: 20000, Busy: 56000, Put: 2, Waiting: 56, Flying: 2}},
		{30000, api.LinkStat{Now: 30000, Busy: 56000, Put: 2, Waiting: 28, Flying: 2}},
		{59000, api.LinkStat{Now: 50000, Busy: 56000, Put: 2, Waiting: 28, Flying: 2}},
		{60000, api.LinkStat{Now: 60000, Busy: 56000, Put: 2, Flying: 2}},
	} {
		c.Until = x.until
		r := makes(t, c)
		idle := api.LinkStat{Now: x.stat.Now}
		if want := [][2]api.LinkStat{{x.stat, idle}, {idle, idle}}; !slices.Equal(r.r.Links, want) {
			t.Errorf("Until %d: %+v, want %+v", x.until, r.r.Links, want)
		}
	}
}

// P24.11: an act is a step with just the fields that its kind has.
func TestActFields(t *testing.T) {
	c := trial(2)
	c.Until = 0
	odd := func(kind int) api.Act {
		return api.Act{Step: api.Step{Kind: kind, Side: 1, Path: 1, N: 7, At: 5, Mask: 6, On: true, Data: []byte("xy")}}
	}
	for _, kind := range []int{api.StepWrite, api.StepRead, api.StepClose, api.StepJoin, api.StepPrio, api.StepLeave, api.StepAbort} {
		c.Plan = append(c.Plan, odd(kind))
	}
	r := makes(t, c)
	r.steps(`write b "xy" / read b 7 / close b / join b 1 on / prio b 1 on / leave b 1 / abort b`)
	r.times(0, 0, 0, 0)
	want := []api.Step{
		{Kind: api.StepWrite, Side: 1, Data: []byte("xy")}, {Kind: api.StepRead, Side: 1, N: 7}, {Kind: api.StepClose, Side: 1},
		{Kind: api.StepJoin, Side: 1, Path: 1, On: true}, {Kind: api.StepPrio, Side: 1, Path: 1, On: true}, {Kind: api.StepLeave, Side: 1, Path: 1}, {Kind: api.StepAbort, Side: 1},
	}
	if !sameSteps(r.r.Script.Steps, want) {
		t.Errorf("%+v", r.r.Script.Steps)
	}
}

// S10: an experiment with fair links brings all that is written, over each scheduler.
func TestAllArrives(t *testing.T) {
	text := strings.Repeat("the quick brown fox ", 30)
	for sched := range api.NumScheds {
		if sched == api.Replay {
			continue
		}
		c := trial(2)
		c.Conn.Sched, c.Conn.SendBuf, c.Conn.RecvBuf, c.Conn.Mss = sched, 1000, 200, 20
		c.Links[0] = [2]api.LinkConfig{{Rate: 100000, Delay: 5000, Queue: 5000, Loss: []bool{false, false, false, false, true}}, {Delay: 7000, Queue: 5000}}
		c.Links[1] = [2]api.LinkConfig{{Rate: 50000, Delay: 2000, Queue: 5000, Jitter: []int{0, 5000, 900}}, {Delay: 3000, Queue: 5000, Loss: []bool{true, false, false, false, false, false, false}}}
		c.Eager = [2]bool{true, true}
		c.Until = 60000000
		c.Tick = 50
		c.Plan = []api.Act{act(0, joins(0, 1)), act(30000, write(0, text)), act(30000, closes(0)), act(40000, write(1, text[:100])), act(90000, closes(1))}
		// Bytes that come behind the end are the last that a side hears of: so it may have to ask for the end.
		c.Plan = append(c.Plan, act(59000000, read(0, 9)), act(59000000, read(1, 9)))
		r := makes(t, c)
		var got [2]strings.Builder
		var ends [2]bool
		for _, e := range r.r.Report.Trace {
			if e.Op == api.StepRead {
				got[e.Side].Write(e.Data)
				ends[e.Side] = e.End
			}
		}
		if got[1].String() != text || got[0].String() != text[:100] || ends != [2]bool{true, true} {
			t.Errorf("scheduler %d: %d and %d bytes, ends %v", sched, got[1].Len(), got[0].Len(), ends)
		}
	}
}
