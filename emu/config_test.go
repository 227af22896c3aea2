package emu_test

import (
	"math"
	"testing"

	"braid/api"
	"braid/emu"
)

// pattern is so many places, all of them n.
func pattern(places, n int) []int {
	l := make([]int, places)
	for i := range l {
		l[i] = n
	}
	return l
}

// withPlace is a pattern with one place otherwise.
func withPlace(places, place, n int) []int {
	l := pattern(places, 3)
	l[place] = n
	return l
}

// P24.1: each number of a link at its least and its greatest, one below and one above; patterns of no place, one, the greatest number and one more; a Jitter beyond its bounds at the first place and at the last one.
func TestLinkConfigs(t *testing.T) {
	const many = 65536
	good := api.LinkConfig{Rate: 1, Delay: 1, Queue: 1}
	for _, x := range []struct {
		what string
		set  func(c *api.LinkConfig)
		want api.Errno
	}{
		{"plain", func(c *api.LinkConfig) {}, api.OK},
		{"Rate -1", func(c *api.LinkConfig) { c.Rate = -1 }, 240},
		{"least int Rate", func(c *api.LinkConfig) { c.Rate = math.MinInt }, 240},
		{"Rate 0", func(c *api.LinkConfig) { c.Rate = 0 }, api.OK},
		{"Rate 2^40", func(c *api.LinkConfig) { c.Rate = 1 << 40 }, api.OK},
		{"Rate 2^40 + 1", func(c *api.LinkConfig) { c.Rate = 1<<40 + 1 }, 240},
		{"greatest int Rate", func(c *api.LinkConfig) { c.Rate = math.MaxInt }, 240},
		{"Delay -1", func(c *api.LinkConfig) { c.Delay = -1 }, 241},
		{"least int Delay", func(c *api.LinkConfig) { c.Delay = math.MinInt }, 241},
		{"Delay 0", func(c *api.LinkConfig) { c.Delay = 0 }, api.OK},
		{"Delay 2^40", func(c *api.LinkConfig) { c.Delay = 1 << 40 }, api.OK},
		{"Delay 2^40 + 1", func(c *api.LinkConfig) { c.Delay = 1<<40 + 1 }, 241},
		{"greatest int Delay", func(c *api.LinkConfig) { c.Delay = math.MaxInt }, 241},
		{"Queue -1", func(c *api.LinkConfig) { c.Queue = -1 }, 242},
		{"least int Queue", func(c *api.LinkConfig) { c.Queue = math.MinInt }, 242},
		{"Queue 0", func(c *api.LinkConfig) { c.Queue = 0 }, 242},
		{"Queue 2", func(c *api.LinkConfig) { c.Queue = 2 }, api.OK},
		{"Queue 2^30", func(c *api.LinkConfig) { c.Queue = 1 << 30 }, api.OK},
		{"Queue 2^30 + 1", func(c *api.LinkConfig) { c.Queue = 1<<30 + 1 }, 242},
		{"greatest int Queue", func(c *api.LinkConfig) { c.Queue = math.MaxInt }, 242},
		{"Loss of no place", func(c *api.LinkConfig) { c.Loss = []bool{} }, api.OK},
		{"Loss of one place", func(c *api.LinkConfig) { c.Loss = []bool{true} }, api.OK},
		{"Loss of 65535 places", func(c *api.LinkConfig) { c.Loss = make([]bool, many-1) }, api.OK},
		{"Loss of 65536 places", func(c *api.LinkConfig) { c.Loss = make([]bool, many) }, api.OK},
		{"Loss of 65537 places", func(c *api.LinkConfig) { c.Loss = make([]bool, many+1) }, 243},
		{"Jitter of no place", func(c *api.LinkConfig) { c.Jitter = []int{} }, api.OK},
		{"Jitter of one place", func(c *api.LinkConfig) { c.Jitter = []int{0} }, api.OK},
		{"Jitter of 65535 places", func(c *api.LinkConfig) { c.Jitter = pattern(many-1, 1) }, api.OK},
		{"Jitter of 65536 places", func(c *api.LinkConfig) { c.Jitter = pattern(many, 1) }, api.OK},
		{"Jitter of 65537 places", func(c *api.LinkConfig) { c.Jitter = pattern(many+1, 1) }, 243},
		{"both of 65536 places", func(c *api.LinkConfig) { c.Loss, c.Jitter = make([]bool, many), pattern(many, 1) }, api.OK},
		{"Jitter 2^40", func(c *api.LinkConfig) { c.Jitter = []int{1 << 40, 0, 1 << 40} }, api.OK},
		{"Jitter -1 first", func(c *api.LinkConfig) { c.Jitter = withPlace(5, 0, -1) }, 243},
		{"Jitter -1 in the middle", func(c *api.LinkConfig) { c.Jitter = withPlace(5, 2, -1) }, 243},
		{"Jitter -1 last", func(c *api.LinkConfig) { c.Jitter = withPlace(5, 4, -1) }, 243},
		{"Jitter 2^40 + 1 first", func(c *api.LinkConfig) { c.Jitter = withPlace(5, 0, 1<<40+1) }, 243},
		{"Jitter 2^40 + 1 last", func(c *api.LinkConfig) { c.Jitter = withPlace(5, 4, 1<<40+1) }, 243},
		{"Jitter -1 at the last of 65536 places", func(c *api.LinkConfig) { c.Jitter = withPlace(many, many-1, -1) }, 243},
		{"the least int of Jitter", func(c *api.LinkConfig) { c.Jitter = []int{math.MinInt} }, 243},
		{"the greatest int of Jitter", func(c *api.LinkConfig) { c.Jitter = []int{math.MaxInt} }, 243},
		{"all wrong", func(c *api.LinkConfig) { *c = api.LinkConfig{Rate: -1, Delay: -1, Jitter: []int{-1}} }, 240},
		{"Delay and behind it", func(c *api.LinkConfig) { *c = api.LinkConfig{Delay: -1, Jitter: []int{-1}} }, 241},
		{"Queue and Jitter", func(c *api.LinkConfig) { *c = api.LinkConfig{Jitter: []int{-1}} }, 242},
		{"Rate above and Delay", func(c *api.LinkConfig) { c.Rate, c.Delay = 1<<40+1, -1 }, 240},
		{"Delay above and Queue", func(c *api.LinkConfig) { c.Delay, c.Queue = 1<<40+1, 0 }, 241},
		{"Queue above and Loss", func(c *api.LinkConfig) { c.Queue, c.Loss = 1<<30+1, make([]bool, many+1) }, 242},
	} {
		c := good
		x.set(&c)
		l, e := emu.NewLink(c)
		if e != x.want || (l != nil) != (x.want == api.OK) {
			t.Errorf("%s: %v, %d, want %d", x.what, l != nil, e, x.want)
		}
		if e != api.OK {
			continue
		}
		at, ok := l.Next()
		if s := l.Stat(); s != (api.LinkStat{}) || at != 0 || ok {
			t.Errorf("%s: something was put: %+v, %d, %v", x.what, s, at, ok)
		}
	}
}

// A Link that NewLink did not give takes nothing and tells nothing, also behind calls.
func TestNotGiven(t *testing.T) {
	for _, l := range []*emu.Link{nil, {}} {
		for range 3 {
			c := link{t, l}
			c.put(5, "abc", false)
			c.put(5, "", false)
			c.still()
			c.take(0)
			c.take(1 << 63)
			c.is(api.LinkStat{})
		}
	}
}

// hop is a link that may be.
func hop() api.LinkConfig { return api.LinkConfig{Delay: 1000, Queue: 1 << 20} }

// trial is an experiment of so many paths that may be.
func trial(paths int) api.EmuConfig {
	c := api.EmuConfig{Tick: 10, Until: 50000}
	c.Conn = api.Config{Paths: paths, Mss: 4, SendBuf: 60, RecvBuf: 20, Gaps: 4, Retries: 1, Bag: 1, Keys: [2]uint64{7, 9}, Base: [2]uint64{0, 1000}}
	for range paths {
		c.Links = append(c.Links, [2]api.LinkConfig{hop(), hop()})
	}
	return c
}

func act(at uint64, s api.Step) api.Act { return api.Act{At: at, Step: s} }

// P24.10: each error of an experiment, each bound, and the error that comes first.
func TestFit(t *testing.T) {
	const tickless = uint64(65537) * 10000
	long := func(tick int, until uint64) func(c *api.EmuConfig) {
		return func(c *api.EmuConfig) { c.Tick, c.Until = tick, until }
	}
	plan := func(l ...api.Act) func(c *api.EmuConfig) { return func(c *api.EmuConfig) { c.Plan = l } }
	kind := func(k int) func(c *api.EmuConfig) { return plan(act(5, api.Step{Kind: k})) }
	side := func(n int) func(c *api.EmuConfig) { return plan(act(5, api.Step{Kind: api.StepClose, Side: n})) }
	link := func(path, from int, set func(c *api.LinkConfig)) func(c *api.EmuConfig) {
		return func(c *api.EmuConfig) { set(&c.Links[path][from]) }
	}
	all := func(l ...func(c *api.EmuConfig)) func(c *api.EmuConfig) {
		return func(c *api.EmuConfig) {
			for _, f := range l {
				f(c)
			}
		}
	}
	badRate := func(c *api.LinkConfig) { c.Rate = -1 }
	badDelay := func(c *api.LinkConfig) { c.Delay = -1 }
	badQueue := func(c *api.LinkConfig) { c.Queue = 0 }
	badJitter := func(c *api.LinkConfig) { c.Jitter = []int{-1} }
	badLoss := func(c *api.LinkConfig) { c.Loss = make([]bool, 65537) }
	badConn := func(c *api.EmuConfig) { c.Conn.Mss = 0 }
	closes := act(7, api.Step{Kind: api.StepClose})
	for i, x := range []struct {
		set  func(c *api.EmuConfig)
		want api.Errno
	}{
		{all(), api.OK},
		{badConn, 244},
		{func(c *api.EmuConfig) { c.Conn.Bag = 0 }, 244},
		{func(c *api.EmuConfig) { c.Conn.Bag = api.MaxBag + 1 }, 244},
		{func(c *api.EmuConfig) { c.Conn.Paths = 3 }, 244},
		{func(c *api.EmuConfig) { c.Conn.Paths = 1 }, 244},
		{func(c *api.EmuConfig) { c.Conn.Paths, c.Links = 0, nil }, 244},
		{func(c *api.EmuConfig) { c.Conn.Paths, c.Links = 9, make([][2]api.LinkConfig, 9) }, 244},
		{func(c *api.EmuConfig) { c.Links = nil }, 244},
		{func(c *api.EmuConfig) { c.Links = append(c.Links, c.Links[0]) }, 244},
		{func(c *api.EmuConfig) { *c = api.EmuConfig{} }, 244},
		{link(0, 0, badRate), 240}, {link(0, 1, badDelay), 241}, {link(1, 0, badQueue), 242}, {link(1, 1, badJitter), 243}, {link(1, 1, badLoss), 243},
		{all(link(0, 0, badJitter), link(0, 1, badRate)), 243},
		{all(link(0, 1, badQueue), link(1, 0, badRate)), 242},
		{all(link(1, 0, badDelay), link(1, 1, badRate)), 241},
		{all(link(0, 1, badJitter), link(1, 0, badDelay), link(1, 1, badRate)), 243},
		{all(badConn, link(0, 0, badRate)), 244},
		{all(func(c *api.EmuConfig) { c.Links = c.Links[:1] }, link(0, 0, badRate)), 244},
		{long(0, 0), 245}, {long(-1, 0), 245}, {long(math.MinInt, 0), 245}, {long(1, 0), api.OK}, {long(2, 0), api.OK}, {long(59999, 0), api.OK},
		{long(60000, 0), api.OK}, {long(60001, 0), 245}, {long(math.MaxInt, 0), 245},
		{all(link(1, 1, badJitter), long(0, 0)), 243},
		{long(10, tickless-1), api.OK}, {long(10, tickless), 246}, {long(10, tickless-9999), api.OK}, {long(10, tickless-10001), api.OK},
		{long(1, 65536000), api.OK}, {long(1, 65536999), api.OK}, {long(1, 65537000), 246}, {long(2, 65537000), api.OK},
		{long(60000, 65537*60000000-1), api.OK}, {long(60000, 65537*60000000), 246},
		{long(60000, 1<<62), 246}, {long(60000, 1<<62+1), 246}, {long(60000, math.MaxUint64), 246}, {long(1, math.MaxUint64), 246},
		{long(0, math.MaxUint64), 245},
		{plan(), api.OK},
		{kind(api.StepWrite), api.OK}, {kind(api.StepRead), api.OK}, {kind(api.StepClose), api.OK}, {kind(api.StepAbort), api.OK},
		{kind(api.StepJoin), api.OK}, {kind(api.StepPrio), api.OK}, {kind(api.StepLeave), api.OK},
		{kind(0), 247}, {kind(-1), 247}, {kind(api.StepTick), 247}, {kind(api.StepDeliver), 247}, {kind(api.StepDrop), 247}, {kind(api.StepDouble), 247},
		{kind(api.StepSpoil), 247}, {kind(api.StepDown), 247}, {kind(api.StepUp), 247}, {kind(api.StepFlush), 247}, {kind(api.NumSteps), 247},
		{kind(math.MaxInt), 247}, {kind(math.MinInt), 247},
		{side(0), api.OK}, {side(1), api.OK}, {side(2), 247}, {side(-1), 247}, {side(3), 247}, {side(math.MaxInt), 247}, {side(math.MinInt), 247},
		{plan(closes, closes), api.OK}, {plan(closes, act(8, closes.Step)), api.OK}, {plan(closes, act(6, closes.Step)), 247},
		{plan(closes, act(9, closes.Step), act(8, closes.Step)), 247}, {plan(act(math.MaxUint64, closes.Step)), api.OK},
		{plan(act(math.MaxUint64, closes.Step), closes), 247}, {plan(closes, closes, closes, act(8, api.Step{Kind: api.StepTick})), 247},
		{plan(act(60000, api.Step{Kind: api.StepDown})), 247},
		{plan(act(0, api.Step{Kind: api.StepJoin, Path: 99, N: -5, At: 7, Mask: 8, Data: []byte("x")})), api.OK},
		{all(long(1, 65537000), kind(0)), 246},
		{all(long(0, 0), kind(0)), 245},
		{all(badConn, link(0, 0, badRate), long(0, math.MaxUint64), kind(0)), 244},
	} {
		c := trial(2)
		x.set(&c)
		if got := emu.Fit(c); got != x.want {
			t.Errorf("row %d: %d, want %d", i, got, x.want)
		}
		if x.want == api.OK {
			continue
		}
		r, e := emu.Run(c)
		if e != x.want || r.Script.Config.Paths != 0 || len(r.Script.Steps)+len(r.Report.Trace)+len(r.Times)+len(r.Links)+len(r.Log)+len(r.Report.Stats[0].Paths) != 0 {
			t.Errorf("row %d: Run: %+v, %d, want %d", i, r, e, x.want)
		}
	}
}
