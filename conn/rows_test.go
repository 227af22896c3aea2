package conn_test

import (
	"bytes"
	"math"
	"testing"

	"braid/api"
	"braid/conn"
	"braid/join"
	"braid/wire"
)

// dice gives the same row of numbers in every run.
type dice uint64

func (d *dice) below(n uint64) uint64 {
	*d = *d*6364136223846793005 + 1442695040888963407
	return uint64(*d) >> 20 % n
}

func (d *dice) one(in uint64) bool { return d.below(in) == 0 }

func (d *dice) oneOf(l ...int) int { return l[d.below(uint64(len(l)))] }

func (d *dice) number(l ...uint64) uint64 { return l[d.below(uint64(len(l)))] }

// text is n letters.
func (d *dice) text(n int) string {
	b := make([]byte, n)
	for i := range b {
		b[i] = byte('a' + d.below(26))
	}
	return string(b)
}

// someConfig is one that may be, small enough for its bounds to be met.
func someConfig(d *dice) api.Config {
	c := api.Config{
		Paths:   d.oneOf(1, 2, 2, 3, 3, 4, 8),
		Mss:     d.oneOf(1, 1, 2, 3, 4, 7),
		SendBuf: d.oneOf(1, 5, 20, 40, 60, 100),
		RecvBuf: d.oneOf(7, 8, 12, 30, 50, 100),
		Gaps:    d.oneOf(1, 2, 3, 64),
		Retries: d.oneOf(1, 1, 2, 3, 16),
		Bag:     d.oneOf(1, 100, 1<<30),
		Sched:   int(d.below(api.NumScheds)),
		Keys:    [2]uint64{d.number(7, 0, math.MaxUint64), d.number(9, 1, 1<<63)},
	}
	for range d.below(uint64(c.Paths) + 1) {
		c.Weights = append(c.Weights, d.oneOf(1, 2, 3, 255))
	}
	for side := range c.Base {
		c.Base[side] = d.number(0, 0, 1000, 1000, 1<<62-20, 1<<62, d.below(1<<40))
		for range d.below(60) {
			c.Picks[side] = append(c.Picks[side], somePick(d, c, c.Base[side]))
		}
	}
	return c
}

// somePick is a decision that may be right, and often is not.
func somePick(d *dice, c api.Config, base uint64) api.Pick {
	p := api.Pick{
		Path: d.oneOf(0, 0, 0, 1, 1, 2, c.Paths-1, c.Paths, -1),
		Off:  base + uint64(c.Mss)*d.below(20),
		Len:  d.oneOf(c.Mss, c.Mss, c.Mss, c.Mss, 0, 1, c.Mss-1, -1, -1, -1),
	}
	if d.one(5) {
		p.Off += d.below(4)
	}
	return p
}

// twins is a side beside its model.
type twins struct {
	t     *testing.T
	e     *conn.End
	m     *model
	n     *counts
	peers []*join.Half
	pool  []api.Frame // frames of handshakes that the peer has sent
	edge  uint64      // the greatest that was known
	wrote string
}

// counts is how often what was come to.
type counts struct {
	dead, gone, reset, done, holes, woken, cut, full, dropped, joined, left, backups, twice, probes, refused int
}

func someTwins(t *testing.T, d *dice, n *counts) *twins {
	t.Helper()
	c, side := someConfig(d), d.oneOf(0, 1, 2, -1, math.MinInt, math.MaxInt)
	e, bad := conn.New(c, side)
	if bad != api.OK {
		t.Fatalf("%+v: %v", c, bad)
	}
	w := &twins{t: t, e: e, m: newModel(c, side), n: n}
	for path := range c.Paths {
		w.peers = append(w.peers, join.New(w.m.peer, path, c.Keys[w.m.peer], c.Keys[w.m.side], 3))
	}
	w.edge = w.m.edge
	return w
}

// near is a number about another one, or one that stands apart.
func near(d *dice, n uint64, apart ...uint64) uint64 {
	if len(apart) > 0 && d.one(6) {
		return d.number(apart...)
	}
	return d.number(n, n, n, n, n+1, n-min(n, 1), n+d.below(10), n-min(n, d.below(10)))
}

// someChunk is a DATA or a FIN of the peer's, often one that is next.
func (w *twins) someChunk(d *dice) api.Frame {
	m := w.m
	num := d.number(d.below(200), d.below(20), 1<<62)
	if d.one(6) {
		return fin(num, min(near(d, m.gap(), m.own(), m.own()+1, 0), 1<<62))
	}
	text := d.text(1 + int(d.below(8)))
	off := near(d, m.gap(), m.own()-uint64(len(text)), m.own()+1-uint64(len(text)), 0, 1<<62)
	return data(num, min(off, 1<<62-uint64(len(text))), text)
}

// someAck tells numbers of a path, often such that are under way.
func (w *twins) someAck(d *dice, path int) api.Frame {
	next := uint64(len(w.m.lanes[path].sent))
	lo := next - min(next, d.below(12))
	f := ack(lo, lo+1+d.below(4))
	if d.one(4) {
		f.Ranges = append(f.Ranges, api.Range{Lo: f.Ranges[0].Hi + 1 + d.below(2), Hi: f.Ranges[0].Hi + 3 + d.below(9)})
	}
	if d.one(20) {
		f.Ranges = append(f.Ranges, api.Range{Lo: 1 << 61, Hi: 1<<62 + 1})
	}
	return f
}

func (w *twins) someDack(d *dice) api.Frame {
	m := w.m
	v := near(d, m.v, m.most(), m.most(), m.most()+1, m.high(), 0)
	if m.closed && d.one(3) {
		v = m.most()
	}
	for i := range m.pieces {
		if p := &m.pieces[i]; m.there(p) && d.one(3) {
			v = d.number(v, p.reach(), p.reach())
			break
		}
	}
	return dack(min(v, 1<<62+1), min(near(d, m.edge, m.edge+uint64(m.c.RecvBuf), 0, 1<<63), 1<<63))
}

// someShake is a frame of a handshake, often one that the peer has sent.
func (w *twins) someShake(d *dice, path int) api.Frame {
	if d.one(3) {
		if f, ok := w.peers[path].Start(0, d.one(2)); ok {
			w.pool = append(w.pool, f)
		}
	}
	if len(w.pool) == 0 || d.one(8) {
		return []api.Frame{
			{Kind: api.KindJoin, Token: tokenOf(w.m.c.Keys[d.below(2)]), Nonce: uint32(d.below(3)), Backup: d.one(2)},
			{Kind: api.KindJoined, Nonce: 3, Mac: make([]byte, 8)},
			{Kind: api.KindProve, Mac: make([]byte, 20)},
		}[d.below(3)]
	}
	f := w.pool[len(w.pool)-1-int(d.below(min(uint64(len(w.pool)), 4)))]
	if d.one(10) && f.Kind != api.KindJoin {
		f = wrongMac(f)
	}
	return f
}

// someFrame is any that can be told, of a path.
func (w *twins) someFrame(d *dice, path int) api.Frame {
	switch d.below(20) {
	case 0, 1, 2, 3:
		return w.someChunk(d)
	case 4, 5, 6, 7, 8:
		return w.someAck(d, path)
	case 9, 10, 11:
		return w.someDack(d)
	case 12:
		return probe(d.number(0, 1, d.below(200), 1<<62))
	case 13:
		return rst(w.m.c.Keys[d.oneOf(w.m.peer, w.m.peer, w.m.peer, w.m.peer, w.m.peer, w.m.peer, w.m.peer, w.m.peer, w.m.side)])
	case 14:
		return prio(d.one(2))
	case 15:
		if d.one(3) {
			return gone(int(d.below(8)))
		}
	}
	return w.someShake(d, path)
}

// hear lets both hear a frame; the side at times one that came on another path, or was spoilt, and the model not.
func (w *twins) hear(d *dice) {
	path := int(d.below(uint64(w.m.c.Paths)))
	if d.one(2) {
		path = 0
	}
	f := w.someFrame(d, path)
	if f.Path == 0 {
		f.Path = path
	}
	path = f.Path
	b, bad := wire.Encode(f)
	if bad != api.OK {
		w.t.Fatalf("%+v: %v", f, bad)
	}
	if d.one(15) {
		w.e.Receive(d.oneOf(path+1, path-1, -1, 8, math.MaxInt), b)
		return
	}
	if d.one(15) {
		b[d.below(uint64(len(b)))] ^= byte(1 + d.below(255))
		w.e.Receive(path, b)
		return
	}
	before := len(w.m.frames)
	w.e.Receive(path, b)
	w.m.hear(path, f)
	if f.Kind <= api.KindFin && len(w.m.frames) > before && w.m.frames[before].Kind == api.KindDack {
		w.n.refused++
	}
	scribble(b)
}

// someTime is often one at which something is due, or nearly.
func (w *twins) someTime(d *dice) int {
	m := w.m
	due := 0
	if l := m.joinedPaths(); len(l) > 0 {
		i := l[d.below(uint64(len(l)))]
		if lane := &m.lanes[i]; len(lane.under) > 0 {
			due = int(lane.mark + lane.est.Rto() - m.clock)
		} else {
			due = int(lane.last + m.while(i) - m.clock)
		}
	}
	return d.oneOf(due, due, due, due-1, due+1, int(d.below(2000)), int(d.below(100)), int(d.below(70000)), 0, -1, 60000, 1<<30+5)
}

// call makes one call of both, and fails unless they answer and stand the same.
func (w *twins) call(d *dice, what uint64) {
	t := w.t
	t.Helper()
	before := w.look()
	switch {
	case what < 4:
		w.write(d)
	case what < 6:
		n := d.oneOf(0, 1, 3, 9, 100, -1, math.MinInt, math.MaxInt)
		b, ended, bad := w.e.Read(n)
		text, wantEnd, want := w.m.readUp(n)
		if string(b) != text || ended != wantEnd || bad != want {
			t.Fatalf("Read(%d): %q %v %v, want %q %v %v", n, b, ended, bad, text, wantEnd, want)
		}
		scribble(b)
	case what < 7:
		w.shut(d)
	case what < 9:
		w.paths(d)
	case what < 19:
		w.hear(d)
	default:
		ms := w.someTime(d)
		w.e.Tick(ms)
		w.m.tick(ms)
	}
	w.count(before)
	w.compare(d)
}

// paths asks for one, tells of one, and seldom leaves one.
func (w *twins) paths(d *dice) {
	path, backup := d.oneOf(0, 1, 1, 2, 2, 3, w.m.c.Paths-1, w.m.c.Paths, -1, math.MaxInt), d.one(2)
	switch d.below(8) {
	case 0:
		w.e.Prio(path, backup)
		w.m.prio(path, backup)
	case 1:
		w.e.Leave(path)
		w.m.leave(path)
	default:
		w.e.Join(path, backup)
		w.m.join(path, backup)
	}
}

// shut closes now and then, and aborts seldom.
func (w *twins) shut(d *dice) {
	if d.one(3) {
		if got, want := w.e.Close(), w.m.close(); got != want {
			w.t.Fatalf("Close: %v, want %v", got, want)
		}
	}
	if d.one(30) {
		if got, want := w.e.Abort(), w.m.abort(); got != want {
			w.t.Fatalf("Abort: %v, want %v", got, want)
		}
	}
}

func (w *twins) write(d *dice) {
	text := d.text(int(d.below(30)))
	p := []byte(text)
	n, bad := w.e.Write(p)
	scribble(p)
	if wantN, want := w.m.write(text); n != wantN || bad != want {
		w.t.Fatalf("Write(%q): %d %v, want %d %v", text, n, bad, wantN, want)
	}
	w.wrote += text[:n]
}

// compare looks at both, and at times takes what they send.
func (w *twins) compare(d *dice) {
	w.t.Helper()
	s := w.e.Stat()
	if want := w.m.stat(); !same(s, want) {
		w.t.Fatalf("%+v, want %+v", s, want)
	}
	w.edge = max(w.edge, s.Edge)
	if d.one(3) {
		return
	}
	l := w.e.Out()
	if len(l) != len(w.m.frames) {
		w.t.Fatalf("%d frames, want %+v", len(l), w.m.frames)
	}
	for i, o := range l {
		f := w.m.frames[i]
		b, bad := wire.Encode(f)
		if bad != api.OK || o.Path != f.Path || !bytes.Equal(o.Bytes, b) {
			w.t.Fatalf("%x on path %d, want %+v", o.Bytes, o.Path, f)
		}
		w.check(f)
		scribble(o.Bytes)
		if answer, ok := w.peers[f.Path].Hear(0, f); ok {
			w.pool = append(w.pool, answer)
		}
	}
	w.m.frames = nil
}

// check: P13.12: DATA says what Write accepted, and does not reach beyond the greatest edge that was known.
func (w *twins) check(f api.Frame) {
	w.t.Helper()
	if f.Kind != api.KindData {
		return
	}
	from := f.Off - w.m.c.Base[w.m.side]
	to := from + uint64(len(f.Data))
	if f.Off+uint64(len(f.Data)) > w.edge || to > uint64(len(w.wrote)) || w.wrote[from:to] != string(f.Data) {
		w.t.Fatalf("%+v, written was %q, the edge is %d", f, w.wrote, w.edge)
	}
}

// look is what count compares.
type look struct {
	err                                                    api.Errno
	done                                                   bool
	dead, holes, cut, joined, left, backups, dropped, full int
}

func (w *twins) look() look {
	m := w.m
	l := look{err: m.err, done: m.done(), holes: m.apart(m.got), dropped: m.dropped}
	for i := range m.lanes {
		add := func(to *int, is bool) {
			if is {
				*to++
			}
		}
		add(&l.dead, m.lanes[i].strikes > m.c.Retries)
		add(&l.joined, m.joined(i))
		add(&l.left, m.lanes[i].half.State() == join.Left)
		add(&l.backups, m.usable(i) && m.lanes[i].backup)
		add(&l.cut, m.group.Window(i).Thresh < 262144 && m.group.Window(i).Cwnd >= 2048)
		add(&l.full, len(m.lanes[i].under) == m.group.Frames(i))
	}
	return l
}

func (w *twins) count(before look) {
	now, n := w.look(), w.n
	add := func(to *int, happened bool) {
		if happened {
			*to++
		}
	}
	add(&n.dead, now.dead > before.dead)
	add(&n.woken, now.dead < before.dead && now.left == before.left)
	add(&n.gone, before.err == api.OK && now.err == api.ErrDead)
	add(&n.reset, before.err == api.OK && now.err == api.ErrReset)
	add(&n.done, !before.done && now.done)
	add(&n.holes, now.holes > before.holes)
	add(&n.cut, now.cut > before.cut)
	add(&n.joined, now.joined > before.joined)
	add(&n.left, now.left > before.left)
	add(&n.backups, now.backups > before.backups)
	add(&n.dropped, now.dropped > before.dropped)
	add(&n.full, now.full > before.full)
	for i := range w.m.pieces {
		if len(w.m.pieces[i].on) > 1 {
			n.twice++
			break
		}
	}
	for _, f := range w.m.frames {
		if f.Kind == api.KindProbe {
			n.probes++
			break
		}
	}
}

// P13.2 to P13.12, E1 to E13: rows of calls against the model.
func TestAgainstModel(t *testing.T) {
	rows := 6000
	if testing.Short() {
		rows = 600
	}
	d := dice(13)
	var n counts
	for range rows {
		w := someTwins(t, &d, &n)
		lonely := d.one(3) // nearly all that happens is Ticks
		for range 120 {
			what := d.below(24)
			if lonely && !d.one(3) {
				what = 23
			}
			w.call(&d, what)
		}
	}
	for what, x := range map[string]int{
		"dead": n.dead, "gone": n.gone, "reset": n.reset, "done": n.done, "holes": n.holes, "woken": n.woken, "cut": n.cut,
		"full windows": n.full, "dropped decisions": n.dropped, "joined": n.joined, "left": n.left, "backups": n.backups,
		"chunks on two paths": n.twice, "probes": n.probes, "refused": n.refused,
	} {
		if x < rows/60 {
			t.Errorf("%s: %d times only, in %d rows", what, x, rows)
		}
	}
}
