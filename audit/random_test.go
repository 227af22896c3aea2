package audit_test

import (
	"slices"
	"testing"

	"braid/api"
	"braid/audit"
)

// someConfig is one whose bounds are near.
func (d *dice) someConfig(sched int) api.Config {
	c := config(sched)
	c.Paths, c.Mss, c.RecvBuf = d.one(1, 2, 2, 3), d.one(1, 2, 3, 4), d.one(4, 6, 12)
	c.Base = [2]uint64{uint64(d.one(0, 3, 1020)), uint64(d.one(0, 1000, 1<<62-40))}
	return c
}

// near is a number of about n.
func (d *dice) near(n uint64) uint64 {
	n += uint64(d.one(0, 0, 0, 1, 2, 3))
	return n - min(n, uint64(d.one(0, 0, 0, 1, 2, 3)))
}

// someFrame is one of a side, often one that it may send.
func (d *dice) someFrame(b *book, side, path int) api.Frame {
	base, other := b.c.Base[side], b.c.Base[1-side]
	f := api.Frame{Path: path}
	switch d.one(1, 1, 1, 1, 1, 2, 3, 4, 4, 5, 5, 5, 6, 7, 8, 9, 10, 11) {
	case 1:
		n := d.below(14)
		text := "abcdefghijklmnopqrst"[n : n+1+d.below(b.c.Mss)]
		if d.maybe(6) {
			text = "xyzuvw"[:1+d.below(6)]
		}
		f = on(path, data(0, base+uint64(n), text))
	case 2:
		f = on(path, fin(0, base+uint64(d.one(14, 14, 14, 12, 3))))
	case 3:
		f = on(path, probe(0))
	case 4:
		f = on(path, ack(d.someBounds()...))
	case 5:
		f = on(path, dack(other+uint64(d.below(15)), other+uint64(d.below(25))))
		for _, p := range slices.Backward(b.l) {
			if p.hears(side, api.KindData) && !d.maybe(3) {
				off := d.near(p.behind())
				f.Off, f.Edge = off, off+uint64(b.c.RecvBuf-d.below(2))
				break
			}
		}
	case 6:
		f = on(path, rst(b.c.Keys[1-side]))
	case 7:
		f = on(path, join(b.c.Keys[1-side]))
	case 8:
		f = on(path, joined())
	case 9:
		f = on(path, prove())
	case 10:
		f = on(path, prio())
	case 11:
		f = on(path, gone(d.one(0, 1, 1, 1, 1)))
	}
	if f.Kind == api.KindRst && !d.maybe(4) {
		f = on(path, probe(0))
	}
	if (f.Kind == api.KindRst || f.Kind == api.KindJoin) && d.maybe(4) {
		f.Token++
	}
	return f
}

// someBounds are the bounds of an ACK, near its numbers' start.
func (d *dice) someBounds() []uint64 {
	var l []uint64
	at := uint64(d.one(0, 0, 1, 2))
	for range d.one(1, 1, 1, 2, 3) {
		to := at + 1 + uint64(d.below(3))
		l = append(l, at, to)
		at = to + 1 + uint64(d.below(2))
	}
	return l
}

// someSending is that a side sends something.
func (d *dice) someSending(b *book, side, path int) api.Event {
	f := d.someFrame(b, side, path)
	if slices.Contains(numbered, f.Kind) {
		f.Num = b.dueNumber(page{Event: api.Event{What: api.EventSent, Side: side, Path: path}, f: f, ok: true})
		if d.maybe(8) {
			f.Num = d.near(f.Num)
		}
	}
	e := event(d.one(1, 1, 1, 2), side, f)
	if d.maybe(25) {
		e.Bytes = e.Bytes[:len(e.Bytes)-d.below(2)-1]
	}
	return e
}

// someMeeting is that something comes of a frame that was sent.
func (d *dice) someMeeting(b *book) api.Event {
	p := b.l[d.below(len(b.l))]
	if n := len(b.l); d.maybe(2) {
		p = b.l[n-1-d.below(min(n, 4))]
	}
	e := api.Event{What: d.one(3, 3, 3, 3, 4, 5, 6), Side: p.Side, Path: p.Path, Bytes: slices.Clone(p.Bytes)}
	if d.maybe(15) && len(e.Bytes) > 0 {
		e.Bytes[d.below(len(e.Bytes))] ^= 1
	}
	return e
}

// someAnswer is what a side owes that has heard what was last.
func (d *dice) someAnswer(b *book) api.Event {
	last := b.l[len(b.l)-1]
	side := 1 - last.Side
	if last.What != api.EventHeard || d.maybe(3) {
		return sent(last.Side, d.repeated(b, last.Side))
	}
	if d.maybe(2) {
		return sent(side, ack(0, last.f.Num+1))
	}
	return sent(side, d.repeated(b, side))
}

// repeated is the DACK that a side has sent last.
func (d *dice) repeated(b *book, side int) api.Frame {
	for _, p := range slices.Backward(b.l) {
		if p.sends(side, api.KindDack) {
			return dack(p.f.Off, p.f.Edge)
		}
	}
	return dack(b.c.Base[1-side], b.c.Base[1-side]+uint64(b.c.RecvBuf))
}

// someEvent is one that may be.
func (d *dice) someEvent(b *book, foreign int) api.Event {
	side, path := d.below(2), d.below(b.c.Paths)
	e := d.someSending(b, side, path)
	switch {
	case foreign > 0 && d.maybe(foreign):
		e.What = api.EventHeard
	case len(b.l) > 0 && d.maybe(3):
		e = d.someAnswer(b)
	case len(b.l) > 0 && !d.maybe(3):
		e = d.someMeeting(b)
	}
	e.Clock = uint64(len(b.l)*10) - uint64(d.one(0, 0, 0, min(len(b.l)*10, 35)))
	return e
}

// P26.2 to P26.5: any rows of events against the book, over each scheduler.
func TestAnyEvents(t *testing.T) {
	found := make(map[int]int)
	foreign, judged := 0, 0
	for row := range rows(6000) {
		d := dice(row)
		k := open(t, d.someConfig(row%api.NumScheds))
		strange := d.one(0, 0, 30, 100)
		for range d.below(60) {
			if d.maybe(50) {
				k.refuses(api.Event{What: d.one(0, 7, 1), Side: d.one(2, -1), Path: d.below(9)})
			}
			e := d.someEvent(k.book, strange)
			p := k.book.read(e)
			k.adds(e, k.book.judge(p))
		}
		r := k.closes()
		for _, f := range r.Findings {
			found[f.Rule]++
		}
		foreign += r.Foreign
		if r.Foreign == 0 {
			judged++
		}
		if t.Failed() {
			t.Fatalf("row %d: %+v", row, k.c)
		}
	}
	for rule := 1; rule < api.NumRules; rule++ {
		if found[rule] < rows(300) {
			t.Errorf("rule %d: found only %d times", rule, found[rule])
		}
	}
	if foreign < rows(1000) || judged < rows(1000) {
		t.Errorf("%d foreign, %d rows without any", foreign, judged)
	}
}

// P26.10: what is found at an event hangs on those up to it alone, and a report asked for changes nothing.
func TestByAndBy(t *testing.T) {
	for row := range rows(300) {
		d := dice(row)
		k := open(t, d.someConfig(row%api.NumScheds))
		for range 40 {
			e := d.someEvent(k.book, 60)
			k.adds(e, k.book.judge(k.book.read(e)))
		}
		l, all := k.book.events(), k.closes()
		for n := range len(l) + 1 {
			r, bad := audit.Audit(k.c, l[:n])
			if bad != api.OK || r.Events != n || len(r.Findings) > len(all.Findings) || !slices.Equal(r.Findings, all.Findings[:len(r.Findings)]) {
				t.Fatalf("row %d: of %d events %v, of all %v", row, n, r.Findings, all.Findings)
			}
			for _, f := range all.Findings[len(r.Findings):] {
				if f.Place < n {
					t.Fatalf("row %d: %v is not told of %d events", row, f, n)
				}
			}
		}
	}
}
