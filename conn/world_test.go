package conn_test

import (
	"bytes"
	"testing"

	"braid/api"
	"braid/conn"
	"braid/gobackn"
	"braid/join"
	"braid/wire"
)

// player is a side of either connection.
type player interface {
	Write(p []byte) (int, api.Errno)
	Read(n int) ([]byte, bool, api.Errno)
	Close() api.Errno
	Abort() api.Errno
	Receive(path int, b []byte)
	Tick(ms int)
	Out() []api.Out
	Stat() api.Stat
}

// parcel is a frame on its way.
type parcel struct {
	bytes  []byte
	spoilt bool
}

// world is two sides and paths between them, and what the application has done and seen.
type world struct {
	t       *testing.T
	c       api.Config
	ends    [2]player
	bags    [2][api.MaxPaths][]parcel // by who has sent, and the path
	down    [api.MaxPaths]bool
	forged  int
	written [2][]byte // accepted by this side
	read    [2][]byte // read by this side
	ended   [2]bool   // this side was told the end
	closed  [2]bool
	aborted [2]bool
	resets  [2]bool   // an RST of the peer's was delivered to this side
	told    [2]uint64 // the greatest edge that this side's peer has told
	chunks  [2]int
}

func newWorld(t *testing.T, c api.Config) *world {
	t.Helper()
	w := &world{t: t, c: c}
	for side := range 2 {
		var bad api.Errno
		if c.Sched == api.Single {
			w.ends[side], bad = gobackn.New(c, side)
		} else {
			w.ends[side], bad = conn.New(c, side)
		}
		if bad != api.OK {
			t.Fatal(bad)
		}
		w.told[side] = c.Base[side] + uint64(c.RecvBuf)
	}
	return w
}

// take lays what a side sends into its bags, and holds it against what may be sent.
func (w *world) take(side int) {
	w.t.Helper()
	for _, o := range w.ends[side].Out() {
		f, bad := wire.Decode(o.Bytes)
		switch {
		case bad != api.OK || o.Path != f.Path || f.Path >= w.c.Paths:
			w.t.Fatalf("%+v: %v", o, bad)
		case f.Kind == api.KindDack:
			w.told[1-side] = max(w.told[1-side], f.Edge)
		case f.Kind == api.KindData:
			w.checkData(side, f)
		}
		if bag := &w.bags[side][o.Path]; len(*bag) < w.c.Bag && !w.down[o.Path] {
			*bag = append(*bag, parcel{bytes: o.Bytes})
		}
	}
	w.check(side)
}

// checkData: what DATA says of an offset is the byte that was accepted for it, none at or behind the edge.
func (w *world) checkData(side int, f api.Frame) {
	w.t.Helper()
	from := f.Off - w.c.Base[side]
	to := from + uint64(len(f.Data))
	if to > uint64(len(w.written[side])) || !bytes.Equal(w.written[side][from:to], f.Data) {
		w.t.Fatalf("side %d sends %+v", side, f)
	}
	if w.forged == 0 && f.Off+uint64(len(f.Data)) > w.told[side] {
		w.t.Fatalf("side %d sends %+v, the edge is %d", side, f, w.told[side])
	}
}

// check: S4.
func (w *world) check(side int) {
	w.t.Helper()
	s := w.ends[side].Stat()
	bad := false
	for _, p := range s.Paths {
		bad = bad || p.Inflight > api.MaxWindow || p.Inflight < 0
	}
	switch {
	case bad, s.Free < 0, s.Free != w.c.SendBuf-int(s.End-min(s.Acked, s.End)):
	case s.Stored > w.c.RecvBuf, s.Holes > w.c.Gaps, s.Ready > s.Stored:
	case s.Err == api.ErrAborted && !w.aborted[side]:
	case s.Err == api.ErrReset && w.forged == 0 && !w.resets[side]:
	default:
		return
	}
	w.t.Fatalf("side %d: %+v", side, s)
}

func (w *world) write(side int, p []byte) (int, api.Errno) {
	w.t.Helper()
	n, bad := w.ends[side].Write(p)
	w.written[side] = append(w.written[side], p[:n]...)
	w.chunks[side] += (n + w.c.Mss - 1) / w.c.Mss
	w.take(side)
	return n, bad
}

func (w *world) close(side int) api.Errno {
	w.t.Helper()
	bad := w.ends[side].Close()
	if bad == api.OK {
		w.closed[side] = true
		w.chunks[side]++
	}
	w.take(side)
	return bad
}

func (w *world) abort(side int) api.Errno {
	w.t.Helper()
	w.aborted[side] = true
	bad := w.ends[side].Abort()
	w.take(side)
	return bad
}

// reads takes bytes at a side, and holds them against what the peer wrote: S1.
func (w *world) reads(side, n int) ([]byte, bool, api.Errno) {
	w.t.Helper()
	b, ended, bad := w.ends[side].Read(n)
	w.read[side] = append(w.read[side], b...)
	w.ended[side] = w.ended[side] || ended
	if w.forged == 0 {
		if !bytes.HasPrefix(w.written[1-side], w.read[side]) {
			w.t.Fatalf("side %d has read %q, written was %q", side, w.read[side], w.written[1-side])
		}
		if ended && (!w.closed[1-side] || len(w.read[side]) != len(w.written[1-side])) {
			w.t.Fatalf("side %d was told the end behind %q, written was %q", side, w.read[side], w.written[1-side])
		}
	}
	w.take(side)
	return b, ended, bad
}

func (w *world) tick(side, ms int) {
	w.t.Helper()
	w.ends[side].Tick(ms)
	w.take(side)
}

// pathCall is Join, Prio or Leave of a side; the single path connection has none of them.
func (w *world) pathCall(side int, call func(e *conn.End)) {
	w.t.Helper()
	if e, ok := w.ends[side].(*conn.End); ok {
		call(e)
		w.take(side)
	}
}

// deliver lets the peer hear the frame at a place of a side's bag.
func (w *world) deliver(side, path, place int) {
	w.t.Helper()
	p := w.drop(side, path, place)
	f, bad := wire.Decode(p.bytes)
	if bad == api.OK {
		if p.spoilt {
			w.forged++
		}
		w.resets[1-side] = w.resets[1-side] || f.Kind == api.KindRst
	}
	before := w.ends[1-side].Stat().Err
	w.ends[1-side].Receive(path, p.bytes)
	if now := w.ends[1-side].Stat().Err; now != before && now != api.ErrReset {
		w.t.Fatalf("side %d: %v by a frame", 1-side, now)
	}
	w.take(1 - side)
}

func (w *world) drop(side, path, place int) parcel {
	bag := &w.bags[side][path]
	p := (*bag)[place]
	*bag = append((*bag)[:place:place], (*bag)[place+1:]...)
	return p
}

func (w *world) double(side, path, place int) {
	if bag := &w.bags[side][path]; len(*bag) < w.c.Bag {
		p := (*bag)[place]
		*bag = append(*bag, parcel{bytes.Clone(p.bytes), p.spoilt})
	}
}

// flush delivers on a path as long as a frame lies there.
func (w *world) flush(path int) {
	w.t.Helper()
	for !w.down[path] && len(w.bags[0][path])+len(w.bags[1][path]) > 0 {
		for side := range 2 {
			for range len(w.bags[side][path]) {
				w.deliver(side, path, 0)
			}
		}
	}
}

// calm is one calm round on a path.
func (w *world) calm(path int) {
	w.t.Helper()
	w.flush(path)
	for side := range 2 {
		w.reads(side, api.MaxBuf)
	}
	for side := range 2 {
		w.tick(side, api.MaxRto)
	}
}

func (w *world) inError() bool {
	return w.ends[0].Stat().Err != api.OK || w.ends[1].Stat().Err != api.OK
}

// joinedAt tells whether a path is joined at both sides.
func (w *world) joinedAt(path int) bool {
	if w.c.Sched == api.Single {
		return path == 0
	}
	return w.ends[0].Stat().Paths[path].State == join.Joined && w.ends[1].Stat().Paths[path].State == join.Joined
}

// somePath does something to a path, or says something of it.
func (w *world) somePath(d *dice) {
	w.t.Helper()
	path := int(d.below(uint64(w.c.Paths)))
	side, backup := int(d.below(2)), d.one(2)
	switch n := d.below(20); {
	case n < 9:
		w.pathCall(0, func(e *conn.End) { e.Join(path, backup) })
	case n < 12:
		w.pathCall(side, func(e *conn.End) { e.Prio(path, backup) })
	case n < 13:
		w.pathCall(side, func(e *conn.End) { e.Leave(path) })
	case n < 16:
		w.down[path] = true
	default:
		w.down[path] = false
	}
}

// someStep does anything to the frames on their way, or lets a clock go on.
func (w *world) someStep(d *dice) {
	w.t.Helper()
	side, path := int(d.below(2)), int(d.below(uint64(w.c.Paths)))
	if d.one(20) {
		w.somePath(d)
		return
	}
	n := uint64(len(w.bags[side][path]))
	if n == 0 || d.one(15*uint64(w.c.Paths)) {
		if d.one(uint64(w.c.Paths) + 1) {
			w.tick(side, d.oneOf(1, 50, 200, 300, 1000, 2000))
		}
		return
	}
	place := int(d.below(n))
	if !d.one(4) {
		place = 0
	}
	switch d.below(12) {
	case 0:
		w.drop(side, path, place)
	case 1:
		w.double(side, path, place)
	case 2:
		p := &w.bags[side][path][place]
		p.bytes[d.below(uint64(len(p.bytes)))] ^= byte(1 + d.below(255))
		p.spoilt = true
	default:
		if !w.down[path] {
			w.deliver(side, path, place)
		}
	}
}

// someCall is one of the application's; aborts are seldom.
func (w *world) someCall(d *dice, aborts bool) {
	w.t.Helper()
	side := int(d.below(2))
	switch n := d.below(200); {
	case n < 100:
		w.write(side, []byte(d.text(int(d.below(30)))))
	case n < 197:
		w.reads(side, int(d.below(40)))
	case n < 199:
		w.close(side)
	case aborts && d.one(4):
		w.abort(side)
	}
}

func someWorld(t *testing.T, d *dice, bag int) *world {
	t.Helper()
	c := someConfig(d)
	c.Bag = bag
	c.Paths = d.oneOf(1, 2, 2, 3, 4)
	c.Weights = c.Weights[:min(len(c.Weights), c.Paths)]
	if !d.one(4) { // else there may be few offsets left
		c.Base = [2]uint64{0, 1000}
	}
	if c.Sched == api.Replay {
		c.Mss = 1
		c.Picks = [2][]api.Pick{rightPicks(d, c.Base[0]), rightPicks(d, c.Base[1])}
	}
	return newWorld(t, c)
}

// rightPicks is decisions for chunks of one byte, in about their order and often again, with such between that are wrong.
func rightPicks(d *dice, base uint64) []api.Pick {
	var l []api.Pick
	for i := range uint64(1500) {
		p := api.Pick{Path: d.oneOf(0, 0, 0, 1, 2, -1), Off: base + i/10 - min(i/10, d.below(9)), Len: 1}
		switch d.below(6) {
		case 0:
			p.Len = d.oneOf(0, 2)
		case 1, 2, 3:
			p.Len = -1
		}
		l = append(l, p)
	}
	return l
}

// S1, S3, S4, P13.12: whatever becomes of the frames and the paths, and whoever decides.
func TestSafety(t *testing.T) {
	rows := 900
	if testing.Short() {
		rows = 300
	}
	d := dice(1)
	var read, ended, failed [api.NumScheds]int
	for range rows {
		w := someWorld(t, &d, d.oneOf(1, 5, 100, 100, 100))
		for range 600 {
			if d.one(5) {
				w.someCall(&d, true)
			} else {
				w.someStep(&d)
			}
		}
		for side := range 2 {
			read[w.c.Sched] += len(w.read[side])
			if w.ended[side] {
				ended[w.c.Sched]++
			}
			if w.ends[side].Stat().Err != api.OK {
				failed[w.c.Sched]++
			}
		}
	}
	for sched := range api.NumScheds {
		few := rows
		if sched == api.Replay {
			few = rows / 8 // what is lost goes out again only if its list says so
		}
		if read[sched] < few || ended[sched] < rows/300 && sched != api.Replay || failed[sched] < rows/60 {
			t.Errorf("scheduler %d: %d bytes read, %d ends told, %d sides in error", sched, read[sched], ended[sched], failed[sched])
		}
	}
}

// S5: with calm rounds on one path behind it, everything arrives in time, and nobody has an error.
func TestLife(t *testing.T) {
	rows := 800
	if testing.Short() {
		rows = 120
	}
	d := dice(5)
	var lived [api.NumScheds]int
	for range rows {
		w := someWorld(t, &d, 2048)
		for range int(d.below(400)) {
			if d.one(3) {
				w.someCall(&d, false)
			} else {
				w.someStep(&d)
			}
		}
		path := int(d.below(uint64(w.c.Paths)))
		w.down[path] = false
		w.calm(path)
		w.calm(path)
		if w.c.Sched == api.Replay || w.inError() || w.forged > 0 || !w.joinedAt(path) {
			continue
		}
		lived[w.c.Sched]++
		for range 4*(w.c.Retries+4) + 4*(w.chunks[0]+w.chunks[1]) {
			w.calm(path)
		}
		for side := range 2 {
			if w.inError() || !bytes.Equal(w.read[side], w.written[1-side]) || w.ended[side] != w.closed[1-side] {
				t.Fatalf("scheduler %d, side %d: read %d of %d, end %v of %v: %+v", w.c.Sched, side, len(w.read[side]), len(w.written[1-side]), w.ended[side], w.closed[1-side], w.ends[side].Stat())
			}
		}
	}
	for sched, n := range lived {
		if sched != api.Replay && n < rows/30 {
			t.Errorf("scheduler %d: %d of %d lived", sched, n, rows)
		}
	}
}

// find is the place of a frame in a side's bag of path 0; -1, if there is none.
func (w *world) find(side int, is func(api.Frame) bool) int {
	for i, p := range w.bags[side][0] {
		if f, bad := wire.Decode(p.bytes); bad == api.OK && is(f) {
			return i
		}
	}
	return -1
}

// give delivers a frame of a side that must be there.
func (w *world) give(side int, what string, is func(api.Frame) bool) {
	w.t.Helper()
	place := w.find(side, is)
	if place < 0 {
		w.t.Fatalf("side %d: no %s lies there", side, what)
	}
	w.deliver(side, 0, place)
}

// follow brings a world over one path, in which nothing is lost, to where another one is, as far as an application can see: chunks are heard when they were heard there, and DACKs that tell no more than was told there.
func (w *world) follow(s *world) {
	w.t.Helper()
	for side := range 2 {
		peer := 1 - side
		for w.ends[side].Stat().Next < s.ends[side].Stat().Next {
			v := w.ends[side].Stat().Next
			w.give(peer, "chunk", func(f api.Frame) bool { return f.Kind <= api.KindFin && f.Off == v })
			for w.find(side, isAck) >= 0 {
				w.give(side, "ACK", isAck)
			}
		}
	}
	for side := range 2 {
		want := s.ends[side].Stat()
		if got := w.ends[side].Stat(); got.Acked != want.Acked || got.Edge != want.Edge {
			w.give(1-side, "DACK", func(f api.Frame) bool {
				return f.Kind == api.KindDack && f.Off == want.Acked && f.Edge == want.Edge
			})
		}
	}
}

func isAck(f api.Frame) bool { return f.Kind == api.KindAck }

// alike makes a call in both worlds, and fails unless it is answered alike.
func alike(d *dice, a, b *world) {
	a.t.Helper()
	side := int(d.below(2))
	switch n := d.below(100); {
	case n < 50:
		p := []byte(d.text(int(d.below(30))))
		x, bad := a.write(side, p)
		if y, bad2 := b.write(side, p); x != y || bad != bad2 {
			a.t.Fatalf("side %d: Write %d %v and %d %v", side, x, bad, y, bad2)
		}
	case n < 98:
		n := int(d.below(40))
		x, ended, bad := a.reads(side, n)
		if y, ended2, bad2 := b.reads(side, n); !bytes.Equal(x, y) || ended != ended2 || bad != bad2 {
			a.t.Fatalf("side %d: Read %q %v %v and %q %v %v", side, x, ended, bad, y, ended2, bad2)
		}
	default:
		if bad, bad2 := a.close(side), b.close(side); bad != bad2 {
			a.t.Fatalf("side %d: Close %v and %v", side, bad, bad2)
		}
	}
}

// S2: what an application saw over paths that lose, double and spoil, with any scheduler, it can see over one path with any other one, the single path connection too, where nothing of that happens and no time passes.
func TestNotSeen(t *testing.T) {
	rows := 600
	if testing.Short() {
		rows = 100
	}
	d := dice(2)
	read := 0
	for range rows {
		s := someWorld(t, &d, 100)
		c := s.c
		c.Bag, c.Paths, c.Weights = api.MaxBag, 1, nil
		c.Sched = d.oneOf(api.MinRtt, api.RoundRobin, api.Redundant, api.Blest, api.Single)
		w := newWorld(t, c)
		for range 500 {
			if d.one(4) {
				alike(&d, s, w)
			} else if s.someStep(&d); s.inError() || s.forged > 0 {
				break
			}
			w.follow(s)
		}
		read += len(s.read[0]) + len(s.read[1])
	}
	if read < 15*rows {
		t.Errorf("%d bytes read in %d rows", read, rows)
	}
}

// buffers is what Stat tells of the two buffers, but for High: a chunk may go out at any frame that wakes a path.
func buffers(s api.Stat) [9]uint64 {
	return [9]uint64{s.Acked, s.End, s.Edge, uint64(s.Free), s.Next, s.Own, uint64(s.Ready), uint64(s.Stored), uint64(s.Holes)}
}

// P13.14: a DATA that was taken, an ACK or a DACK that comes again changes nothing of the two buffers, however late it comes.
func TestLateAgain(t *testing.T) {
	rows := 300
	if testing.Short() {
		rows = 50
	}
	d := dice(14)
	again := 0
	for range rows {
		w := someWorld(t, &d, 100)
		if w.c.Sched == api.Single {
			continue
		}
		var heard [2][]parcel // by who has sent; those that were delivered
		for range 400 {
			if d.one(4) {
				w.someCall(&d, false)
			} else {
				w.someStep(&d)
			}
			side, path := int(d.below(2)), int(d.below(uint64(w.c.Paths)))
			if l := w.bags[side][path]; len(l) > 0 && !w.down[path] {
				heard[side] = append(heard[side], l[0])
				if d.one(2) {
					w.deliver(side, path, 0)
				}
			}
			if n := len(heard[side]); n > 0 {
				again += w.hearAgain(side, heard[side][d.below(uint64(n))].bytes)
			}
		}
	}
	if again < 20*rows {
		t.Errorf("%d times in %d rows", again, rows)
	}
}

// hearAgain lets the peer of a side hear a frame twice, and fails if the second time changes its buffers: 1, if the frame was such a one.
func (w *world) hearAgain(side int, b []byte) int {
	w.t.Helper()
	f, bad := wire.Decode(b)
	if bad != api.OK || f.Kind != api.KindData && f.Kind != api.KindAck && f.Kind != api.KindDack {
		return 0
	}
	e := w.ends[1-side]
	e.Receive(f.Path, b)
	taken := false
	for _, o := range e.Out() {
		g, _ := wire.Decode(o.Bytes)
		taken = taken || g.Kind == api.KindAck
	}
	if f.Kind == api.KindData && !taken {
		return 0
	}
	before := buffers(e.Stat())
	e.Receive(f.Path, b)
	if after := buffers(e.Stat()); after != before {
		w.t.Fatalf("%+v again: %v, want %v", f, after, before)
	}
	w.take(1 - side)
	return 1
}

// entry fails unless a Read of a world's side is answered so.
func (w *world) entry(side, n int, text string, end bool) {
	w.t.Helper()
	if b, ended, bad := w.reads(side, n); string(b) != text || ended != end || bad != api.OK {
		w.t.Errorf("%q %v %v, want %q %v", b, ended, bad, text, end)
	}
}

// line fails unless a side's numbers are those of DOC.md's lines: clock, acked, high, end, edge, next, own, stored, error.
func (w *world) line(side int, want ...uint64) {
	w.t.Helper()
	s := w.ends[side].Stat()
	got := []uint64{s.Clock, s.Acked, s.High, s.End, s.Edge, s.Next, s.Own, uint64(s.Stored), uint64(s.Err)}
	for i := range got {
		if got[i] != want[i] {
			w.t.Errorf("side %d: %v, want %v", side, got, want)
			return
		}
	}
}

// plain is the configuration of a script that says nothing else.
func plain() api.Config {
	return api.Config{Paths: 1, Mss: 100, SendBuf: 1000, RecvBuf: 1000, Gaps: 8, Retries: 3, Bag: 4096, Keys: [2]uint64{1, 2}}
}

// DOC.md's examples of the whole 1, 2, 4 and 5.
func TestExamplesOfTheWhole(t *testing.T) {
	c := plain()
	c.Mss, c.SendBuf, c.RecvBuf = 4, 20, 12
	w := newWorld(t, c)
	w.write(0, []byte("abcdefg"))
	w.deliver(0, 0, 1)
	w.entry(1, 9, "", false)
	w.deliver(0, 0, 0)
	w.entry(1, 9, "abcdefg", false)
	w.flush(0)
	w.line(0, 0, 7, 7, 7, 19, 0, 12, 0, 0)
	w.line(1, 0, 0, 0, 0, 12, 7, 19, 0, 0)

	c = plain()
	c.Paths, c.Mss, c.Sched = 2, 4, api.RoundRobin
	w = newWorld(t, c)
	w.pathCall(0, func(e *conn.End) { e.Join(1, false) })
	w.flush(1)
	w.write(0, []byte("abcdefgh"))
	w.close(0)
	w.down[0] = true
	w.flush(1)
	w.entry(1, 9, "", false)
	w.tick(0, 2000)
	w.flush(1)
	w.entry(1, 9, "abcdefgh", false)
	w.entry(1, 9, "", true)
	w.line(0, 2000, 9, 8, 8, 1000, 0, 1000, 0, 0)
	w.line(1, 0, 0, 0, 0, 1000, 9, 1008, 0, 0)

	w = newWorld(t, plain())
	w.write(0, []byte("x"))
	w.abort(0)
	w.entry(1, 5, "", false)
	w.flush(0)
	for _, side := range []int{0, 1} {
		if _, _, bad := w.reads(side, 5); bad != []api.Errno{134, 132}[side] {
			t.Error(side, bad)
		}
	}
	w.line(0, 0, 0, 1, 1, 1000, 0, 1000, 0, 134)
	w.line(1, 0, 0, 0, 0, 1000, 1, 1000, 1, 132)

	c = plain()
	c.Retries = 1
	w = newWorld(t, c)
	w.close(0)
	w.drop(0, 0, 0)
	for _, ms := range []int{1000, 2000, 4000, 8000} {
		w.tick(0, ms)
	}
	if bad := w.close(0); bad != 133 {
		t.Error(bad)
	}
	w.line(0, 15000, 0, 0, 0, 1000, 0, 1000, 0, 133)
}
