package gobackn_test

import (
	"bytes"
	"math"
	"testing"

	"braid/api"
	"braid/gobackn"
	"braid/wire"
)

// dice gives the same row of numbers in every run.
type dice uint64

func (d *dice) below(n uint64) uint64 {
	*d = *d*6364136223846793005 + 1442695040888963407
	return uint64(*d) >> 20 % n
}

func (d *dice) one(in uint64) bool { return d.below(in) == 0 }

func (d *dice) oneOf(l ...int) int { return l[d.below(uint64(len(l)))] }

func (d *dice) number(l ...uint64) uint64 { return l[d.below(uint64(len(l)))] }

// text is n letters.
func (d *dice) text(n int) string {
	b := make([]byte, n)
	for i := range b {
		b[i] = byte('a' + d.below(26))
	}
	return string(b)
}

// someConfig is one that may be, small enough for its bounds to be met.
func someConfig(d *dice) api.Config {
	c := api.Config{
		Paths:   d.oneOf(1, 1, 8),
		Mss:     d.oneOf(1, 2, 3, 4, 7),
		SendBuf: d.oneOf(1, 5, 20, 40, 60),
		RecvBuf: d.oneOf(7, 8, 12, 30, 50),
		Gaps:    d.oneOf(1, 2, 3, 64),
		Retries: d.oneOf(1, 1, 2, 3, 16),
		Bag:     d.oneOf(1, 100, 1<<30),
		Sched:   d.oneOf(api.Single, api.MinRtt, api.Replay),
		Keys:    [2]uint64{d.number(7, 0, math.MaxUint64), d.number(9, 1, 1<<63)},
	}
	for side := range c.Base {
		c.Base[side] = d.number(0, 1000, 1<<62-20, 1<<62-1, 1<<62, d.below(1<<40))
	}
	return c
}

// twins is a side beside its model.
type twins struct {
	t *testing.T
	e *gobackn.End
	m *model
	n *counts
}

// counts is how often what was come to.
type counts struct {
	dead, gone, reset, done, holes, woken, idle, both, full, refused int
}

func someTwins(t *testing.T, d *dice, n *counts) twins {
	t.Helper()
	c, side := someConfig(d), d.oneOf(0, 1, 2, -1, math.MinInt, math.MaxInt)
	e, bad := gobackn.New(c, side)
	if bad != api.OK {
		t.Fatalf("%+v: %v", c, bad)
	}
	return twins{t, e, newModel(c, side), n}
}

// near is a number about another one, or one that stands apart.
func near(d *dice, n uint64, apart ...uint64) uint64 {
	if len(apart) > 0 && d.one(6) {
		return d.number(apart...)
	}
	return d.number(n, n, n, n, n+1, n-min(n, 1), n+d.below(10), n-min(n, d.below(10)))
}

// someChunk is a DATA or a FIN of the peer's, often the one that is next.
func (w twins) someChunk(d *dice) api.Frame {
	m := w.m
	num := near(d, m.expected, 0, 1<<62)
	if d.one(6) {
		return fin(num, min(near(d, m.gap(), m.own(), m.own()+1, 0), 1<<62))
	}
	text := d.text(1 + int(d.below(8)))
	off := near(d, m.gap(), m.own()-uint64(len(text)), m.own()+1-uint64(len(text)), 0, 1<<62)
	return data(num, min(off, 1<<62-uint64(len(text))), text)
}

// someAck tells places, often a number that may be.
func (w twins) someAck(d *dice) api.Frame {
	lo, hi := uint64(0), max(near(d, uint64(w.m.first()), uint64(w.m.ever()), uint64(w.m.ever())+1, 1<<62), 1)
	switch d.below(12) {
	case 0:
		lo = d.below(hi)
	case 1:
		return api.Frame{Kind: api.KindAck, Ranges: []api.Range{{Hi: 1}, {Lo: 2, Hi: 3}}}
	}
	return api.Frame{Kind: api.KindAck, Ranges: []api.Range{{Lo: lo, Hi: hi}}}
}

func (w twins) someDack(d *dice) api.Frame {
	m := w.m
	v := near(d, m.v, m.most(), m.most()+1, m.high(), 0)
	if i := m.first() + int(d.below(3)); i < len(m.pieces) {
		v = d.number(v, m.pieces[i].reach(), m.pieces[i].reach())
	}
	return dack(min(v, 1<<62+1), min(near(d, m.edge, m.edge+uint64(m.c.RecvBuf), 0, 1<<63), 1<<63))
}

// someFrame is any that can be told.
func (w twins) someFrame(d *dice) api.Frame {
	var f api.Frame
	switch d.below(14) {
	case 0, 1, 2, 3:
		f = w.someChunk(d)
	case 4, 5, 6:
		f = w.someAck(d)
	case 7, 8, 9:
		f = w.someDack(d)
	case 10, 11:
		f = probe(d.number(0, 1, 1<<62))
	case 12:
		f = rst(w.m.c.Keys[d.oneOf(w.m.peer, w.m.peer, w.m.peer, w.m.peer, w.m.side)])
	default:
		f = api.Frame{Kind: api.KindPrio, Backup: d.one(2)}
	}
	if d.one(20) {
		f.Path = 1
	}
	return f
}

// hear lets both hear a frame; the side at times one that came on another path, or was spoilt, and the model not.
func (w twins) hear(d *dice) {
	f := w.someFrame(d)
	b, bad := wire.Encode(f)
	if bad != api.OK {
		w.t.Fatalf("%+v: %v", f, bad)
	}
	if d.one(15) {
		w.e.Receive(d.oneOf(1, -1, 8, math.MaxInt), b)
		return
	}
	if d.one(15) {
		b[d.below(uint64(len(b)))] ^= byte(1 + d.below(255))
		w.e.Receive(0, b)
		return
	}
	w.e.Receive(0, b)
	expected := w.m.expected
	w.m.hear(f)
	if f.Num == expected && w.m.expected == expected && f.Kind <= api.KindFin {
		w.n.refused++
	}
	scribble(b)
}

// someTime is often one at which something is due, or nearly.
func (w twins) someTime(d *dice) int {
	m := w.m
	due := int(m.mark + m.time() - m.clock)
	if m.row() == 0 && !m.probing {
		due = int(m.last + m.while() - m.clock)
	}
	return d.oneOf(due, due, due, due-1, due+1, int(d.below(2000)), int(d.below(70000)), 0, -1, 60000, 1<<30+5)
}

// call makes one call of both, and fails unless they answer and stand the same.
func (w twins) call(d *dice, what uint64) {
	t := w.t
	t.Helper()
	before := w.look()
	switch {
	case what < 3:
		w.write(d)
	case what < 5:
		n := d.oneOf(0, 1, 3, 9, 100, -1, math.MinInt, math.MaxInt)
		b, ended, bad := w.e.Read(n)
		text, wantEnd, want := w.m.readUp(n)
		if string(b) != text || ended != wantEnd || bad != want {
			t.Fatalf("Read(%d): %q %v %v, want %q %v %v", n, b, ended, bad, text, wantEnd, want)
		}
		scribble(b)
	case what < 6:
		w.shut(d)
	case what < 13:
		w.hear(d)
	default:
		ms := w.someTime(d)
		w.e.Tick(ms)
		w.m.tick(ms)
	}
	w.count(before)
	w.compare(d)
}

// shut closes now and then, and aborts seldom.
func (w twins) shut(d *dice) {
	if d.one(4) {
		if got, want := w.e.Close(), w.m.close(); got != want {
			w.t.Fatalf("Close: %v, want %v", got, want)
		}
	}
	if d.one(20) {
		if got, want := w.e.Abort(), w.m.abort(); got != want {
			w.t.Fatalf("Abort: %v, want %v", got, want)
		}
	}
}

func (w twins) write(d *dice) {
	text := d.text(int(d.below(30)))
	p := []byte(text)
	n, bad := w.e.Write(p)
	scribble(p)
	if wantN, want := w.m.write(text); n != wantN || bad != want {
		w.t.Fatalf("Write(%q): %d %v, want %d %v", text, n, bad, wantN, want)
	}
}

// compare looks at both, and at times takes what they send.
func (w twins) compare(d *dice) {
	w.t.Helper()
	if s, want := w.e.Stat(), w.m.stat(); !same(s, want) {
		w.t.Fatalf("%+v, want %+v", s, want)
	}
	if w.m.row() > 8 || !w.m.inOrder() {
		w.t.Fatalf("under way: %+v", w.m.pieces)
	}
	if d.one(3) {
		return
	}
	l := w.e.Out()
	if len(l) != len(w.m.frames) {
		w.t.Fatalf("%d frames, want %+v", len(l), w.m.frames)
	}
	for i, o := range l {
		b, bad := wire.Encode(w.m.frames[i])
		if bad != api.OK || o.Path != 0 || !bytes.Equal(o.Bytes, b) {
			w.t.Fatalf("%x on path %d, want %+v", o.Bytes, o.Path, w.m.frames[i])
		}
		scribble(o.Bytes)
	}
	w.m.frames = nil
}

// look is what count compares.
type look struct {
	err        api.Errno
	dead, done bool
	row, holes int
}

func (w twins) look() look {
	m := w.m
	return look{m.err, m.strikes > m.c.Retries, m.done(), m.row(), m.apart(m.got)}
}

func (w twins) count(before look) {
	now, n := w.look(), w.n
	add := func(to *int, happened bool) {
		if happened {
			*to++
		}
	}
	woken := before.dead && !now.dead
	add(&n.dead, !before.dead && now.dead)
	add(&n.gone, before.err == api.OK && now.err == api.ErrDead)
	add(&n.reset, before.err == api.OK && now.err == api.ErrReset)
	add(&n.done, !before.done && now.done)
	add(&n.holes, now.holes > before.holes)
	add(&n.woken, woken)
	add(&n.idle, woken && before.row == 0 && now.row > 0)
	add(&n.both, w.m.probing && now.row > 0)
	add(&n.full, now.row == 8)
}

// P12.1 to P12.8, P12.10, E1 to E13: rows of calls against the model.
func TestAgainstModel(t *testing.T) {
	rows := 6000
	if testing.Short() {
		rows = 600
	}
	d := dice(12)
	var n counts
	for range rows {
		w := someTwins(t, &d, &n)
		lonely := d.one(3) // nearly all that happens is Ticks
		for range 60 {
			what := d.below(17)
			if lonely && !d.one(3) {
				what = 16
			}
			w.call(&d, what)
		}
	}
	for what, x := range map[string]int{"dead": n.dead, "gone": n.gone, "reset": n.reset, "done": n.done, "holes": n.holes, "woken": n.woken, "woken with chunks": n.idle, "a PROBE beside chunks": n.both, "full rows": n.full, "refused": n.refused} {
		if x < rows/100 {
			t.Errorf("%s: %d times only, in %d rows", what, x, rows)
		}
	}
}
