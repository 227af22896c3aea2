package harness_test

import (
	"bytes"
	"reflect"
	"testing"

	"braid/api"
	"braid/harness"
	"braid/wire"
)

// story is what the application did and saw, by sides.
type story struct {
	written, read  [2][]byte
	closed, ended  [2]bool
	aborted        [2]bool
	err            [2]api.Errno
	chunks, failed int // calls that answered an error that stays
}

// tell goes through a Trace, and holds it against S1 as it goes.
func tell(t *testing.T, trace []api.Entry, mss int) story {
	t.Helper()
	var s story
	for i, e := range trace {
		side, peer := e.Side, 1-e.Side
		if s.err[side] != api.OK && e.Err != s.err[side] {
			t.Fatalf("entry %d: %+v behind %v", i, e, s.err[side])
		}
		if e.Err != api.OK && e.Err != api.ErrClosed {
			s.err[side] = e.Err
			s.failed++
		}
		if e.Err != api.OK && (e.End || e.Op == api.StepRead && len(e.Data) > 0 || e.Op == api.StepWrite && e.N != 0) {
			t.Fatalf("entry %d: %+v", i, e)
		}
		switch {
		case e.Err != api.OK:
		case e.Op == api.StepWrite:
			s.written[side] = append(s.written[side], e.Data[:e.N]...)
			s.chunks += (e.N + mss - 1) / mss
		case e.Op == api.StepClose:
			s.closed[side] = true
			s.chunks++
		case e.Op == api.StepAbort:
			s.aborted[side], s.err[side] = true, api.ErrAborted
		case e.Op == api.StepRead:
			s.read[side] = append(s.read[side], e.Data...)
			s.ended[side] = s.ended[side] || e.End
			if !bytes.HasPrefix(s.written[peer], s.read[side]) {
				t.Fatalf("entry %d: side %d has read %q, written was %q", i, side, s.read[side], s.written[peer])
			}
			if e.End && (!s.closed[peer] || len(s.read[side]) != len(s.written[peer])) {
				t.Fatalf("entry %d: the end is told behind %q, written was %q", i, s.read[side], s.written[peer])
			}
		}
	}
	return s
}

// S1, S3: what is read is a beginning of what was written, over each scheduler, Replay with any list among them.
func TestSafety(t *testing.T) {
	read, ended, failed := 0, 0, 0
	for row := range rowsOf(3000) {
		d := dice(50000 + row)
		s := someScript(&d, row%api.NumScheds, 150)
		r := harness.Run(s)
		if r.Forged > 0 {
			continue
		}
		x := tell(t, r.Trace, s.Config.Mss)
		read += len(x.read[0]) + len(x.read[1])
		failed += x.failed
		if x.ended[0] || x.ended[1] {
			ended++
		}
	}
	if read == 0 || failed == 0 || ended == 0 {
		t.Errorf("%d bytes were read, %d ends told, %d calls failed: the rows show too little", read, ended, failed)
	}
}

// S3: decisions that can't be carried out are dropped, and nothing else happens by them.
func TestGuard(t *testing.T) {
	for row := range rowsOf(300) {
		d := dice(70000 + row)
		s := someScript(&d, api.Replay, 80)
		w, v := open(t, s.Config), open(t, strewn(&d, s.Config))
		for _, x := range s.Steps {
			w.Do(x)
			v.Do(x)
		}
		if !reflect.DeepEqual(lookAt(w), lookAt(v)) {
			t.Fatalf("row %d: a decision that can't be carried out is seen", row)
		}
	}
}

// strewn is a configuration with decisions between its own that may never be carried out. (One with a Len below 0 is none: it ends the sending.)
func strewn(d *dice, c api.Config) api.Config {
	for side, l := range c.Picks {
		c.Picks[side] = nil
		for _, p := range l {
			for d.one(2) {
				base := c.Base[side]
				c.Picks[side] = append(c.Picks[side], []api.Pick{
					{Path: -1, Off: base, Len: c.Mss}, {Path: c.Paths, Off: base, Len: c.Mss}, {Path: 0, Off: base, Len: c.Mss + 1}, {Path: -5, Off: base},
					{Path: 0, Off: 1 << 63, Len: c.Mss}, {Path: 8, Off: base, Len: 1}, {Path: 0, Off: base + 1<<20, Len: c.Mss},
				}[d.below(7)])
			}
			c.Picks[side] = append(c.Picks[side], p)
		}
	}
	return c
}

// bounds is what S4 looks at.
type bounds struct {
	w       *harness.World
	c       api.Config
	seen    int       // events that were looked at
	edge    [2]uint64 // the greatest that a side's peer has told
	reset   [2]bool   // an RST of its peer was delivered to this side
	aborted [2]bool
	err     [2]api.Errno
}

// S4: the bounds hold at every moment.
func TestBounds(t *testing.T) {
	for row := range rowsOf(500) {
		d := dice(90000 + row)
		s := someScript(&d, row%api.NumScheds, 100)
		b := &bounds{w: open(t, s.Config), c: s.Config}
		for side := range 2 {
			b.edge[side] = s.Config.Base[side] + uint64(s.Config.RecvBuf)
		}
		for _, x := range s.Steps {
			if x.Kind == api.StepAbort {
				b.aborted[x.Side&1] = true
			}
			b.w.Do(x)
			b.events(t)
			for side := range 2 {
				b.side(t, side, x)
			}
		}
	}
}

// events: no byte goes out at or behind the greatest edge that the peer has told.
func (b *bounds) events(t *testing.T) {
	t.Helper()
	log := b.w.Log()
	for _, e := range log[b.seen:] {
		f, bad := wire.Decode(e.Bytes)
		sent := e.What == api.EventSent || e.What == api.EventLost
		switch {
		case bad != api.OK:
		case sent && f.Kind == api.KindDack:
			b.edge[1-e.Side] = max(b.edge[1-e.Side], f.Edge)
		case sent && f.Kind == api.KindData && b.w.Forged() == 0 && f.Off+uint64(len(f.Data)) > b.edge[e.Side]:
			t.Fatalf("side %d sends %+v, the edge is %d", e.Side, f, b.edge[e.Side])
		case e.What == api.EventHeard && f.Kind == api.KindRst:
			b.reset[1-e.Side] = true
		}
	}
	b.seen = len(log)
}

func (b *bounds) side(t *testing.T, side int, x api.Step) {
	t.Helper()
	s := b.w.Stat(side)
	fresh := s.Err != b.err[side]
	bad := fresh && b.err[side] != api.OK
	for _, p := range s.Paths {
		bad = bad || p.Inflight > api.MaxWindow
	}
	for path := range b.c.Paths {
		bad = bad || len(b.w.Bag(side, path)) > b.c.Bag
	}
	switch {
	case bad:
	case s.End > s.Acked && s.End-s.Acked > uint64(b.c.SendBuf), s.Stored > b.c.RecvBuf, s.Holes > b.c.Gaps:
	case fresh && s.Err == api.ErrAborted && !b.aborted[side]:
	case fresh && s.Err == api.ErrDead && (x.Kind != api.StepTick || x.Side&1 != side):
	case fresh && s.Err == api.ErrReset && b.w.Forged() == 0 && !b.reset[side]:
	default:
		b.err[side] = s.Err
		return
	}
	t.Fatalf("side %d behind %+v: %+v", side, x, s)
}

// S4: a frame that can't be read changes nothing, at any side and path.
func TestUnreadable(t *testing.T) {
	for row := range rowsOf(300) {
		d := dice(110000 + row)
		s := someScript(&d, row%api.NumScheds, 60)
		w := open(t, s.Config)
		for _, x := range s.Steps {
			w.Do(x)
		}
		for side := range 2 {
			for path := range s.Config.Paths {
				bag := w.Bag(side, path)
				if len(bag) == 0 {
					continue
				}
				w.Do(onPath(api.StepUp, path))
				if !bag[0].Spoilt {
					w.Do(spoil(side, path, 0, d.below(99), byte(1+d.below(255))))
				}
				if readable(w.Bag(side, path)[0].Bytes) {
					t.Fatalf("row %d: a byte is turned and it can be read", row)
				}
				before := lookAt(w)
				w.Do(deliver(side, path, 0))
				after := lookAt(w)
				if !reflect.DeepEqual(before.stats, after.stats) || len(after.log) != len(before.log)+1 || after.forged != before.forged {
					t.Fatalf("row %d: something has changed", row)
				}
			}
		}
	}
}

// joined tells whether a path is so at both sides, of which neither has an error.
func joined(r api.Report, path int) bool {
	for _, s := range r.Stats {
		if s.Err != api.OK || path >= len(s.Paths) || s.Paths[path].State != 3 {
			return false
		}
	}
	return true
}

// S5: behind calm rounds on a path that is joined all is read, and the ends are told.
func TestLife(t *testing.T) {
	lives := 0
	for row := range rowsOf(1200) {
		d := dice(130000 + row)
		sched := []int{api.MinRtt, api.RoundRobin, api.Redundant, api.Blest, api.Single}[row%5]
		s := someScript(&d, sched, 80)
		s.Config.Bag = d.int(2048, 4096, api.MaxBag)
		path := d.below(s.Config.Paths)
		if sched == api.Single {
			path = 0
		}
		two := harness.Run(harness.Calm(s, path, 2))
		if two.Forged > 0 || !joined(two, path) {
			continue
		}
		lives++
		chunks := tell(t, two.Trace, s.Config.Mss).chunks
		r := harness.Run(harness.Calm(s, path, 4*(s.Config.Retries+4)+4*chunks))
		x := tell(t, r.Trace, s.Config.Mss)
		for side := range 2 {
			peer := 1 - side
			if r.Stats[side].Err != api.OK || x.failed > 0 || !bytes.Equal(x.read[side], x.written[peer]) || x.ended[side] != x.closed[peer] {
				t.Fatalf("row %d: side %d: %v, read %d of %d bytes, closed %v, ended %v", row, side, r.Stats[side].Err, len(x.read[side]), len(x.written[peer]), x.closed[peer], x.ended[side])
			}
		}
	}
	if lives < rowsOf(100) {
		t.Errorf("%d rows had a fair path: too few", lives)
	}
}

// quiet is a script in which every frame is delivered behind each call, over all paths.
func quiet(d *dice, calls int) []api.Step {
	var l []api.Step
	for range calls {
		side := d.below(2)
		l = append(l, []api.Step{
			{Kind: api.StepWrite, Side: side, Data: someData(d, 90)}, {Kind: api.StepWrite, Side: side, Data: someData(d, 9)},
			read(side, d.int(0, 1, 7, 30, 200)), read(side, d.int(5, 200)), tick(side, d.int(1, 300, 5000)),
		}[d.below(5)])
		if d.one(25) {
			l = append(l, atSide(api.StepClose, side))
		}
		if d.one(90) {
			l = append(l, atSide(api.StepAbort, side))
		}
		for range 2 { // what a frame of a path sends on another one
			for p := range 4 {
				l = append(l, flush(p))
			}
		}
	}
	return l
}

// S2, as far as it shows without another script: where all is delivered behind each call, each scheduler over each number of paths brings the same answers.
func TestNotSeen(t *testing.T) {
	for row := range rowsOf(150) {
		d := dice(150000 + row)
		steps := quiet(&d, 40)
		var want []api.Entry
		for _, sched := range []int{api.Single, api.MinRtt, api.RoundRobin, api.Redundant, api.Blest} {
			for _, paths := range []int{1, 2, 4} {
				c := api.Config{Paths: paths, Mss: 1 + row%9, SendBuf: 120, RecvBuf: 60, Gaps: 64, Retries: 3, Bag: 2048, Sched: sched, Keys: [2]uint64{1, 2}}
				s := api.Script{Config: c}
				for p := 1; p < paths; p++ {
					s.Steps = append(s.Steps, joins(api.StepJoin, 0, p, p == 3), flush(p))
				}
				s.Steps = append(s.Steps, steps...)
				r := harness.Run(s)
				if want == nil {
					want = r.Trace
				}
				if !sameEntries(r.Trace, want) {
					t.Fatalf("row %d: scheduler %d over %d paths is seen", row, sched, paths)
				}
			}
		}
	}
}
