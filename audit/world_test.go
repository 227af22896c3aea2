package audit_test

import (
	"bytes"
	"math"
	"testing"

	"braid/api"
	"braid/audit"
	"braid/harness"
	"braid/wire"
)

// someWorld is a configuration of any kind.
func (d *dice) someWorld(sched int) api.Config {
	c := api.Config{
		Paths: d.one(1, 2, 2, 3, 8), Mss: d.one(1, 1, 3, 4, 10), Gaps: d.one(1, 2, 8, 64), Retries: d.one(1, 1, 2, 3, 16),
		SendBuf: d.one(1, 20, 60, 200, 1000), Bag: d.one(1, 2, 5, 50, 4096, api.MaxBag), Sched: sched,
		Keys: [2]uint64{uint64(d.below(9)), uint64(d.below(9))}, Base: [2]uint64{uint64(d.one(0, 5, 1<<62-30)), uint64(d.one(0, 1000, 1<<62))},
	}
	c.RecvBuf = c.Mss + d.one(0, 0, 1, 2, 10, 30, 100, 300)
	for range d.below(c.Paths + 1) {
		c.Weights = append(c.Weights, 1+d.below(4))
	}
	if sched == api.Replay || d.maybe(9) {
		for side := range 2 {
			for range d.below(60) {
				c.Picks[side] = append(c.Picks[side], api.Pick{Path: d.below(c.Paths+2) - 1, Off: c.Base[side] + uint64(d.below(40)/c.Mss*c.Mss), Len: d.one(c.Mss, c.Mss, c.Mss, 0, 1, -1)})
			}
		}
	}
	return c
}

// someStep is one of any kind, with fields that its kind has; now and then with odd ones.
func (d *dice) someStep(c api.Config) api.Step {
	s := api.Step{Kind: d.one(1, 1, 1, 2, 2, 2, 3, 5, 5, 5, 6, 6, 6, 6, 6, 6, 6, 7, 8, 9, 10, 11, 11, 12, 12, 12, 13, 13, 14, 15), Side: d.below(2), Path: d.below(c.Paths)}
	if d.maybe(60) {
		s.Kind = d.one(api.StepAbort, api.StepAbort, 0, 16, -1, 99, math.MaxInt)
	}
	switch s.Kind {
	case api.StepWrite:
		s.Data = d.bytes(d.one(0, 1, 5, 30, 100))
	case api.StepRead:
		s.N = d.one(0, 1, 5, 100, 1000, -1)
	case api.StepTick:
		s.N = d.one(0, 1, 10, 199, 200, 1000, 1000, 3000, 10000, 60000, -5)
	case api.StepDeliver, api.StepDrop, api.StepDouble:
		s.N = d.one(0, 0, 0, 1, 2, -1, 7, -9)
	case api.StepSpoil:
		s.N, s.At, s.Mask = d.one(0, 1, -1), d.below(60)-20, byte(d.one(0, 1, 1, 255))
	case api.StepJoin, api.StepPrio:
		s.On = d.maybe(3)
	}
	if d.maybe(40) {
		s.Side, s.Path = d.one(-1, 2, 3, math.MinInt, math.MaxInt), d.one(-1, 8, c.Paths, 0)
	}
	return s
}

// someSteps are those of a whole script; the one of a mood in which much is heard, or little.
func (d *dice) someSteps(c api.Config, most int) []api.Step {
	var l []api.Step
	for p := 1; p < c.Paths; p++ {
		if !d.maybe(4) {
			l = append(l, api.Step{Kind: api.StepJoin, Path: p, On: d.maybe(5)}, api.Step{Kind: api.StepFlush, Path: p})
		}
	}
	calm := d.one(1, 3, 10)
	for range d.below(most) {
		s := d.someStep(c)
		if !d.maybe(calm) {
			s = api.Step{Kind: d.one(api.StepDeliver, api.StepDeliver, api.StepDeliver, api.StepWrite, api.StepRead, api.StepDrop), Side: d.below(2), Path: d.below(c.Paths), N: d.one(0, 0, 0, 1, 40), Data: d.bytes(d.below(40))}
		}
		l = append(l, s)
	}
	if d.maybe(4) {
		l = append(l, d.someEnd()...)
	}
	return l
}

// someEnd is that a side ends while much is under way.
func (d *dice) someEnd() []api.Step {
	side := d.below(2)
	l := []api.Step{{Kind: api.StepWrite, Side: side, Data: d.bytes(200)}, {Kind: api.StepAbort, Side: side}}
	if d.maybe(2) {
		l = l[:1]
		for range 50 {
			l = append(l, api.Step{Kind: api.StepTick, Side: side, N: api.MaxRto})
		}
	}
	for range 20 {
		l = append(l, api.Step{Kind: d.one(api.StepDeliver, api.StepDrop), Side: d.below(2), Path: d.below(8), N: d.one(0, -1)}, api.Step{Kind: api.StepWrite, Side: d.below(2), Data: []byte("more")})
	}
	return l
}

// played is a world in which a script's steps were done.
func played(t *testing.T, c api.Config, steps []api.Step) *harness.World {
	t.Helper()
	w, e := harness.New(c)
	if e != api.OK {
		t.Fatalf("%+v: %d", c, e)
	}
	for _, s := range steps {
		w.Do(s)
	}
	return w
}

// honest is the log of any script of which no frame was forged, and the world.
func (d *dice) honest(t *testing.T, sched, most int) (api.Config, *harness.World) {
	t.Helper()
	for {
		c := d.someWorld(sched)
		if w := played(t, c, d.someSteps(c, most)); w.Forged() == 0 {
			return c, w
		}
	}
}

// P26.7: nobody is blamed, at no event; P26.8: the streams are those of the Trace.
func TestNobodyIsBlamed(t *testing.T) {
	events := 0
	for row := range rows(3000) {
		d := dice(row)
		c, w := d.honest(t, row%api.NumScheds, 200)
		a, _ := audit.New(c)
		for k, e := range w.Log() {
			if l, bad := a.Add(e); len(l) != 0 || bad != api.OK {
				t.Fatalf("row %d: %+v: event %d, %s: %v, %d", row, c, k, told(e), l, bad)
			}
		}
		r := a.Report()
		if len(r.Findings) != 0 || r.Foreign != 0 || r.Events != len(w.Log()) {
			t.Fatalf("row %d: %s", row, told(r))
		}
		streamsAre(t, c, w.Trace(), r)
		events += r.Events
	}
	if events < rows(3000)*50 {
		t.Errorf("only %d events", events)
	}
}

// streamsAre holds the streams of a report against what the application did.
func streamsAre(t *testing.T, c api.Config, trace []api.Entry, r api.AuditReport) {
	t.Helper()
	var accepted, answered [2][]byte
	var closed [2]bool
	for _, e := range trace {
		switch {
		case e.Err != api.OK:
		case e.Op == api.StepWrite:
			accepted[e.Side] = append(accepted[e.Side], e.Data[:e.N]...)
		case e.Op == api.StepRead:
			answered[e.Side] = append(answered[e.Side], e.Data...)
		case e.Op == api.StepClose:
			closed[e.Side] = true
		}
	}
	for side, s := range r.Streams {
		if !bytes.HasPrefix(accepted[side], s.Bytes) || !bytes.HasPrefix(s.Bytes, answered[1-side]) || s.Ends && !closed[side] {
			t.Fatalf("%+v: side %d: %s of %q, read %q", c, side, told(s), accepted[side], answered[1-side])
		}
	}
}

// P26.7: each beginning of a log, by itself.
func TestBeginnings(t *testing.T) {
	for row := range rows(240) {
		d := dice(row)
		c, w := d.honest(t, row%api.NumScheds, 60)
		l := w.Log()
		for n := range len(l) + 1 {
			r, bad := audit.Audit(c, l[:n])
			if bad != api.OK || len(r.Findings) != 0 || r.Foreign != 0 || r.Events != n {
				t.Fatalf("row %d: %+v: of %d events %s, %d", row, c, n, told(r), bad)
			}
		}
	}
}

// The whole report of logs, also of such with forged frames, against the book.
func TestLogsByBook(t *testing.T) {
	forged := 0
	for row := range rows(600) {
		d := dice(row)
		c := d.someWorld(row % api.NumScheds)
		w := played(t, c, d.someSteps(c, 60))
		if d.maybe(2) {
			d.forge(w, c.Paths)
		}
		k := open(t, c)
		for _, e := range w.Log() {
			k.adds(e, k.book.judge(k.book.read(e)))
		}
		forged += k.closes().Foreign
		if t.Failed() {
			t.Fatalf("row %d: %+v", row, c)
		}
	}
	if forged < rows(600)/5 {
		t.Errorf("%d foreign", forged)
	}
}

// forge lets a frame that lies somewhere be heard as another one that can be read: with another sum, and another last byte ahead of it.
func (d *dice) forge(w *harness.World, paths int) {
	for range 30 {
		side, path := d.below(2), d.below(paths)
		bag := w.Bag(side, path)
		if len(bag) == 0 {
			w.Do(api.Step{Kind: d.one(api.StepUp, api.StepWrite, api.StepTick), Side: side, Path: path, N: 1000, Data: []byte("some")})
			continue
		}
		n := d.below(len(bag))
		was := bag[n].Bytes
		f, bad := wire.Decode(was)
		if bad != api.OK {
			continue
		}
		switch f.Kind {
		case api.KindData:
			f.Data[0] ^= 1
		case api.KindFin, api.KindProbe:
			f.Num ^= 1
		case api.KindDack:
			f.Edge ^= 1
		}
		for at, b := range coded(f) {
			w.Do(api.Step{Kind: api.StepSpoil, Side: side, Path: path, N: n, At: at, Mask: b ^ was[at]})
		}
		w.Do(api.Step{Kind: api.StepDeliver, Side: side, Path: path, N: n})
	}
}
