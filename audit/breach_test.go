package audit_test

import (
	"slices"
	"testing"

	"braid/api"
	"braid/audit"
	"braid/emu"
	"braid/sums"
	"braid/wire"
)

// breach is bytes that a side may send in the place of what it did send, behind the events of the book, so that it breaks a rule; false, if there are none.
func (d *dice) breach(b *book, rule, side, path int) ([]byte, bool) {
	if rule == form {
		return d.bytes(d.below(30)), true
	}
	f, ok := d.breaking(b, rule, side)
	f.Path = path
	if !ok || f.Kind == api.KindJoin && path == 0 {
		return nil, false
	}
	numberOf := page{Event: api.Event{What: api.EventSent, Side: side, Path: path}, f: f, ok: true}
	if slices.Contains(numbered, f.Kind) && rule != number {
		f.Num = b.dueNumber(numberOf)
	}
	if rule == number {
		f.Num = d.near(b.dueNumber(numberOf))
	}
	bytes, bad := wire.Encode(f)
	numberOf.f = f
	return bytes, bad == api.OK && b.broken(rule, numberOf)
}

// breaking is a frame that may break a rule, and is not numbered yet.
func (d *dice) breaking(b *book, rule, side int) (api.Frame, bool) {
	some, had := d.someSent(b, side, api.KindData)
	last, ended := d.someSent(b, side, api.KindFin)
	fresh := data(0, b.c.Base[side], "a")
	switch rule {
	case number:
		return []api.Frame{fresh, fin(0, b.c.Base[side]), probe(0)}[d.below(3)], true
	case edge:
		fresh.Off = b.edgeOf(side) - uint64(d.below(2))
		fresh.Data = d.bytes(2)
		return fresh, true
	case says:
		if had {
			some.Data[d.below(len(some.Data))]++
		}
		return some, had
	case cut:
		if !had || d.maybe(3) {
			fresh.Data = d.bytes(min(b.c.Mss+1, api.MaxMss))
			return fresh, true
		}
		some.Data = append(some.Data, 'x')[d.below(2):]
		return some, true
	case end:
		switch {
		case ended && d.maybe(2):
			return data(0, last.Off, "x"), true
		case ended:
			return fin(0, last.Off+1), true
		}
		return fin(0, some.Off), had
	}
	return d.breakingMore(b, rule, side)
}

func (d *dice) breakingMore(b *book, rule, side int) (api.Frame, bool) {
	other := b.c.Base[1-side]
	switch rule {
	case acks:
		to := uint64(d.below(9))
		return ack(0, to+1), true
	case dacks:
		f, _ := d.someSent(b, side, api.KindDack)
		return dack(f.Off+uint64(d.below(2)), f.Edge-min(f.Edge, uint64(d.below(2)))), true
	case token:
		f := []api.Frame{rst(0), join(0)}[d.below(2)]
		f.Token = sums.Token(b.c.Keys[1-side]) + 1
		return f, true
	case role:
		switch {
		case side == api.SideA || b.single() && d.maybe(2):
			return joined(), true
		case d.maybe(2):
			return join(b.c.Keys[1-side]), true
		}
		return prove(), true
	}
	return []api.Frame{probe(0), rst(b.c.Keys[1-side]), dack(other, other), data(0, b.c.Base[side], "a")}[d.below(4)], true
}

// someSent is a frame of a kind that a side has sent, and whether there is one.
func (d *dice) someSent(b *book, side, kind int) (api.Frame, bool) {
	var l []api.Frame
	for _, p := range b.l {
		if p.sends(side, kind) {
			l = append(l, p.f)
		}
	}
	if len(l) == 0 {
		return api.Frame{Kind: kind}, false
	}
	f := l[d.below(len(l))]
	f.Data = slices.Clone(f.Data)
	return f, true
}

// P26.9: a frame in the place of one that was sent, that breaks a rule, is told with that rule and place.
func TestBreaches(t *testing.T) {
	told := make(map[[2]int]int)
	for row := range rows(400) {
		d := dice(row)
		sched := row % api.NumScheds
		c, w := d.honest(t, sched, 100)
		l := w.Log()
		b := book{c: c}
		for k, e := range l {
			for rule := form; rule <= after; rule++ {
				if e.What > api.EventLost || !d.maybe(4) && rule != after {
					continue
				}
				bad, ok := d.breach(&b, rule, e.Side, e.Path)
				if !ok {
					continue
				}
				broken := slices.Clone(l)
				broken[k].Bytes = bad
				r, no := audit.Audit(c, broken)
				if no != api.OK || !slices.Contains(r.Findings, api.Finding{Place: k, Rule: rule, Side: e.Side, Path: e.Path}) || r.Findings[0].Place < k {
					t.Fatalf("row %d: %+v: rule %d at %d: %v, %d", row, c, rule, k, r.Findings, no)
				}
				told[[2]int{sched, rule}]++
			}
			b.l = append(b.l, b.read(e))
		}
	}
	for sched := range api.NumScheds {
		for rule := form; rule <= after; rule++ {
			if n := told[[2]int{sched, rule}]; n < 10 && !testing.Short() && (rule != after || sched != api.Single) { // over a single path nothing is ever sent behind an RST
				t.Errorf("sched %d: rule %d was broken only %d times", sched, rule, n)
			}
		}
	}
}

// someRoad is a link of an experiment.
func (d *dice) someRoad() api.LinkConfig {
	c := api.LinkConfig{
		Rate:  d.one(0, 0, 0, 1000, 20000, 1000000),
		Delay: d.one(0, 0, 10, 1000, 1000, 5000, 30000),
		Queue: d.one(1<<20, 1<<20, 1<<20, 25, 60, 200),
	}
	if d.maybe(4) {
		for range 1 + d.below(9) {
			c.Loss = append(c.Loss, d.maybe(6))
		}
	}
	if d.maybe(4) {
		for range 1 + d.below(5) {
			c.Jitter = append(c.Jitter, d.one(0, 0, 1000, 1000, 3000, d.below(20000)))
		}
	}
	return c
}

// someRun is an experiment that may be.
func (d *dice) someRun(sched int) api.EmuConfig {
	c := api.EmuConfig{Conn: d.someWorld(sched), Tick: d.one(1, 7, 10, 10, 200, 1000, 60000), Eager: [2]bool{!d.maybe(3), !d.maybe(3)}}
	c.Conn.Bag = d.one(5, api.MaxBag, api.MaxBag, api.MaxBag)
	for range c.Conn.Paths {
		c.Links = append(c.Links, [2]api.LinkConfig{d.someRoad(), d.someRoad()})
	}
	c.Until = uint64(c.Tick*1000)*uint64(d.below(60)) + uint64(d.one(0, d.below(c.Tick*1000)))
	for p := 1; p < c.Conn.Paths && !d.maybe(3); p++ {
		c.Plan = append(c.Plan, api.Act{Step: api.Step{Kind: api.StepJoin, Path: p, On: d.maybe(4)}})
	}
	at := uint64(0)
	for range d.below(30) {
		at += uint64(d.one(0, 0, 0, 1, 1000, 10000, c.Tick*1000))
		s := api.Step{Kind: d.one(1, 1, 1, 1, 1, 2, 2, 3, 13, 14, 15), Side: d.below(2), Path: d.below(c.Conn.Paths), N: d.one(0, 1, 100), Data: d.bytes(d.below(60)), On: d.maybe(3)}
		if d.maybe(40) {
			s.Kind = api.StepAbort
		}
		c.Plan = append(c.Plan, api.Act{At: at, Step: s})
	}
	return c
}

// P26.11: an experiment has no finding; over a good link nothing is lost, dropped, late or heard twice, and what was sent was heard or flies.
func TestExperiments(t *testing.T) {
	good, sent := 0, 0
	for row := range rows(1500) {
		d := dice(row)
		sched := row % api.NumScheds
		c := d.someRun(sched)
		run, bad := emu.Run(c)
		if bad != api.OK {
			t.Fatalf("row %d: %d", row, bad)
		}
		r, bad := audit.Audit(c.Conn, run.Log)
		if bad != api.OK || len(r.Findings) != 0 || r.Foreign != 0 || r.Events != len(run.Log) {
			t.Fatalf("row %d: %+v: %s, %d", row, c, told(r), bad)
		}
		streamsAre(t, c.Conn, run.Report.Trace, r)
		for path, both := range run.Links {
			for side, link := range both {
				p, of := r.Paths[side][path], c.Links[path][side]
				if p.Heard != int(link.Come) || p.Sent != p.Heard+p.Dropped+link.Flying || p.Doubled+p.Spoilt+p.Unread != 0 {
					t.Fatalf("row %d: %+v of %+v", row, p, link)
				}
				if len(of.Loss) > 0 || len(of.Jitter) > 0 || link.Full > 0 || c.Conn.Bag < api.MaxBag {
					continue
				}
				good, sent = good+1, sent+p.Sent
				if p.Lost != 0 || p.Dropped != 0 || sched != api.Single && p.Late+p.Twice != 0 || p.Sent != p.Heard+link.Flying {
					t.Fatalf("row %d: side %d, path %d: %+v of %+v", row, side, path, p, link)
				}
			}
		}
	}
	if good < rows(1000) || sent < rows(10000) {
		t.Errorf("%d good links, %d frames on them", good, sent)
	}
}
