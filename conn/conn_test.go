package conn_test

import (
	"bytes"
	"crypto/sha256"
	"encoding/binary"
	"math"
	"reflect"
	"slices"
	"strings"
	"testing"

	"braid/api"
	"braid/conn"
	"braid/join"
	"braid/wire"
)

// config is the chapter's C.
func config() api.Config {
	return api.Config{Paths: 2, Mss: 4, SendBuf: 20, RecvBuf: 12, Gaps: 4, Retries: 1, Bag: 100, Sched: api.MinRtt, Keys: [2]uint64{7, 9}, Base: [2]uint64{0, 1000}}
}

type change = func(*api.Config)

// wide leaves room for whatever a test sends.
func wide(c *api.Config) { c.SendBuf, c.RecvBuf = 4000, 4000 }

func retries(n int) change { return func(c *api.Config) { c.Retries = n } }

func mss(n int) change { return func(c *api.Config) { c.Mss = n } }

func paths(n int) change { return func(c *api.Config) { c.Paths = n } }

func kind(n int, weights ...int) change {
	return func(c *api.Config) { c.Sched, c.Weights = n, weights }
}

// replays is Replay with these decisions of side A.
func replays(l ...api.Pick) change {
	return func(c *api.Config) { c.Sched, c.Picks[0] = api.Replay, l }
}

// end is a side of the chapter's C, with changes.
func end(t *testing.T, side int, changes ...change) *conn.End {
	t.Helper()
	c := config()
	for _, change := range changes {
		change(&c)
	}
	e, bad := conn.New(c, side)
	if bad != api.OK || e == nil {
		t.Fatalf("New: %v", bad)
	}
	return e
}

// tokenOf reckons a key's token by Go's library.
func tokenOf(key uint64) uint32 {
	s := sha256.Sum256(binary.BigEndian.AppendUint64(nil, key))
	return binary.BigEndian.Uint32(s[:])
}

// The frames, of path 0 if nothing else is said.
func data(num, off uint64, text string) api.Frame {
	return api.Frame{Kind: api.KindData, Num: num, Off: off, Data: []byte(text)}
}

func fin(num, off uint64) api.Frame { return api.Frame{Kind: api.KindFin, Num: num, Off: off} }

func probe(num uint64) api.Frame { return api.Frame{Kind: api.KindProbe, Num: num} }

// ack has ranges from each first number on to the second one.
func ack(ends ...uint64) api.Frame {
	f := api.Frame{Kind: api.KindAck}
	for l := range slices.Chunk(ends, 2) {
		f.Ranges = append(f.Ranges, api.Range{Lo: l[0], Hi: l[1]})
	}
	return f
}

func dack(off, edge uint64) api.Frame {
	return api.Frame{Kind: api.KindDack, Off: off, Edge: edge}
}

func rst(key uint64) api.Frame { return api.Frame{Kind: api.KindRst, Token: tokenOf(key)} }

func prio(backup bool) api.Frame { return api.Frame{Kind: api.KindPrio, Backup: backup} }

func gone(which int) api.Frame { return api.Frame{Kind: api.KindGone, Which: which} }

// on is a frame of another path.
func on(path int, f api.Frame) api.Frame {
	f.Path = path
	return f
}

// row is chunks that are cut out of a text, with numbers and offsets from these on.
func row(num, off uint64, text string, size int) []api.Frame {
	var l []api.Frame
	for len(text) > 0 {
		n := min(size, len(text))
		l = append(l, data(num, off, text[:n]))
		num++
		off += uint64(n)
		text = text[n:]
	}
	return l
}

// over is chunks on a path, with numbers from one on.
func over(path int, num uint64, chunks ...api.Frame) []api.Frame {
	var l []api.Frame
	for _, f := range chunks {
		f.Path, f.Num = path, num
		l = append(l, f)
		num++
	}
	return l
}

const fifty = "abcdefghijklmnopqrstuvwxyzABCDEFGHIJKLMNOPQRSTUVWX"

// out is the frames that are to be sent, read.
func out(t *testing.T, e *conn.End) []api.Frame {
	t.Helper()
	var l []api.Frame
	for _, o := range e.Out() {
		f, bad := wire.Decode(o.Bytes)
		if bad != api.OK || o.Path != f.Path {
			t.Fatalf("%+v: %v", o, bad)
		}
		l = append(l, f)
	}
	return l
}

// sends fails unless just these frames are to be sent.
func sends(t *testing.T, e *conn.End, want ...api.Frame) {
	t.Helper()
	if l := out(t, e); len(l) != len(want) || len(l) > 0 && !reflect.DeepEqual(l, want) {
		t.Errorf("sends %+v, want %+v", l, want)
	}
}

// encoded is a frame's bytes.
func encoded(t *testing.T, f api.Frame) []byte {
	t.Helper()
	b, bad := wire.Encode(f)
	if bad != api.OK {
		t.Fatalf("%+v: %v", f, bad)
	}
	return b
}

// hear lets a side hear a frame on its path.
func hear(t *testing.T, e *conn.End, f api.Frame) {
	t.Helper()
	e.Receive(f.Path, encoded(t, f))
}

// answers fails unless a side that hears a frame sends just these.
func answers(t *testing.T, e *conn.End, f api.Frame, want ...api.Frame) {
	t.Helper()
	hear(t, e, f)
	sends(t, e, want...)
}

// ticks fails unless a side sends just these frames at a tick.
func ticks(t *testing.T, e *conn.End, ms int, want ...api.Frame) {
	t.Helper()
	e.Tick(ms)
	sends(t, e, want...)
}

// writes fails unless a side accepts just the first n bytes of a text.
func writes(t *testing.T, e *conn.End, text string, n int) {
	t.Helper()
	if got, bad := e.Write([]byte(text)); got != n || bad != api.OK {
		t.Errorf("Write of %d bytes: %d %v, want %d", len(text), got, bad, n)
	}
}

// reads fails unless a side reads just this text, and the end or not.
func reads(t *testing.T, e *conn.End, n int, text string, atEnd bool) {
	t.Helper()
	if b, ended, bad := e.Read(n); string(b) != text || ended != atEnd || bad != api.OK {
		t.Errorf("Read(%d): %q %v %v, want %q %v", n, b, ended, bad, text, atEnd)
	}
}

// does fails unless Close, or Abort, is answered so.
func does(t *testing.T, what func() api.Errno, want api.Errno) {
	t.Helper()
	if bad := what(); bad != want {
		t.Errorf("%v, want %v", bad, want)
	}
}

// fresh is a path that has done nothing.
func fresh(state int) api.PathStat {
	return api.PathStat{State: state, Window: api.Window{Cwnd: 10240, Thresh: 262144}, Rto: 1000}
}

// under fails unless a path has so many strikes, frames under way, and this time behind which its timer fires.
func under(t *testing.T, e *conn.End, path, strikes, inflight int, rto uint64) {
	t.Helper()
	if p := e.Stat().Paths[path]; p.Strikes != strikes || p.Inflight != inflight || p.Rto != rto {
		t.Errorf("path %d: %+v, want %d strikes, %d under way, %d ms", path, p, strikes, inflight, rto)
	}
}

// window fails unless a path's window is this.
func window(t *testing.T, e *conn.End, path, cwnd, thresh int) {
	t.Helper()
	if w := e.Stat().Paths[path].Window; w != (api.Window{Cwnd: cwnd, Thresh: thresh}) {
		t.Errorf("path %d: %+v, want %d %d", path, w, cwnd, thresh)
	}
}

// state fails unless the paths are in these states of a handshake.
func state(t *testing.T, e *conn.End, states ...int) {
	t.Helper()
	for i, p := range e.Stat().Paths {
		if p.State != states[i] {
			t.Errorf("path %d is %d, want %d", i, p.State, states[i])
		}
	}
}

// half is a side's half of a path of the chapter's C, beside the side: with it frames of a handshake are made.
func half(side, path int) *join.Half {
	c := config()
	return join.New(side, path, c.Keys[side], c.Keys[1-side], 1)
}

// shaken is the frames of a path's handshake: JOIN, JOINED and PROVE.
func shaken(path int, backup bool) [3]api.Frame {
	a, b := half(0, path), half(1, path)
	asked, _ := a.Start(0, backup)
	joined, _ := b.Hear(0, asked)
	prove, _ := a.Hear(0, joined)
	return [3]api.Frame{asked, joined, prove}
}

// joinPath goes through a path's handshake with a side.
func joinPath(t *testing.T, e *conn.End, side, path int, backup bool) {
	t.Helper()
	f := shaken(path, backup)
	if side == api.SideA {
		e.Join(path, backup)
		sends(t, e, f[0])
		answers(t, e, f[1], f[2])
	} else {
		answers(t, e, f[0], f[1])
		answers(t, e, f[2])
	}
	if p := e.Stat().Paths[path]; p.State != join.Joined || p.Backup != backup {
		t.Fatalf("path %d: %+v", path, p)
	}
}

// joined is a side of which so many paths from 1 on are joined too.
func joined(t *testing.T, e *conn.End, side, more int) *conn.End {
	t.Helper()
	for path := 1; path <= more; path++ {
		joinPath(t, e, side, path, false)
	}
	return e
}

// The chapter's examples 1 to 3.
func TestExamples(t *testing.T) {
	a, b := end(t, 0), end(t, 1)
	writes(t, a, fifty[:26], 20)
	chunks := row(0, 0, fifty[:20], 4)
	sends(t, a, chunks[:3]...)
	if s := a.Stat(); s.Acked != 0 || s.High != 12 || s.End != 20 || s.Edge != 12 || s.Free != 0 {
		t.Errorf("%+v", s)
	}
	answers(t, b, chunks[1], ack(1, 2), dack(0, 12))
	answers(t, b, chunks[0], ack(0, 2), dack(8, 12))
	reads(t, b, 5, "abcde", false)
	sends(t, b, dack(8, 17))
	answers(t, a, dack(8, 17), chunks[3])
	if s := a.Stat(); s.Free != 8 || s.Edge != 17 {
		t.Errorf("%+v", s)
	}
}

// The chapter's example 4: frame by frame, as its peer's Halves tell them.
func TestExampleOfJoin(t *testing.T) {
	a, b := end(t, 0), end(t, 1)
	joined(t, a, 0, 1)
	joined(t, b, 1, 1)
	state(t, a, 3, 3)
	state(t, b, 3, 3)
	a, b = end(t, 0), end(t, 1)
	a.Join(1, false)
	carry(a, b)
	state(t, b, 3, join.Answered)
	carry(b, a)
	state(t, a, 3, 3)
	carry(a, b)
	state(t, b, 3, 3)
}

// carry lets a side hear what the other one sends.
func carry(from, to *conn.End) {
	for _, o := range from.Out() {
		to.Receive(o.Path, o.Bytes)
	}
}

// The chapter's example 5.
func TestExampleOfReset(t *testing.T) {
	a := end(t, 0)
	before := a.Stat()
	answers(t, a, rst(9))
	if s := a.Stat(); !reflect.DeepEqual(s, before) {
		t.Errorf("%+v, want %+v", s, before)
	}
	answers(t, a, rst(7))
	broken(t, a, api.ErrReset)
}

// The chapter's example 6.
func TestExampleOfDeath(t *testing.T) {
	b := end(t, 1)
	ticks(t, b, 10000, probe(0))
	under(t, b, 0, 0, 1, 1000)
	ticks(t, b, 1000)
	under(t, b, 0, 1, 0, 2000)
	ticks(t, b, 9000, probe(1))
	ticks(t, b, 2000, probe(2))
	under(t, b, 0, 2, 1, 4000)
	ticks(t, b, 4000, probe(3), rst(7))
	under(t, b, 0, 3, 1, 8000)
	broken(t, b, api.ErrDead)
}

// fits fails unless Fit and New agree that a configuration may be, or may not.
func fits(t *testing.T, what string, c api.Config, may bool) {
	t.Helper()
	want := api.ErrConfig
	if may {
		want = api.OK
	}
	if bad := conn.Fit(c); bad != want {
		t.Errorf("%s: Fit %v, want %v, of %+v", what, bad, want, c)
	}
	for side := range 2 {
		if e, bad := conn.New(c, side); bad != want || (e != nil) != may {
			t.Errorf("%s: New %v, want %v, of %+v", what, bad, want, c)
		}
	}
}

// P13.1, P13.2: each number of a configuration below, at and above its bounds.
func TestFitBounds(t *testing.T) {
	for _, b := range []struct {
		what        string
		least, most int
		set         func(c *api.Config, n int)
	}{
		{"Paths", 1, 8, func(c *api.Config, n int) { c.Paths = n }},
		{"Paths of three weights", 3, 8, func(c *api.Config, n int) { c.Paths, c.Weights = n, []int{1, 1, 1} }},
		{"Mss", 1, 12, func(c *api.Config, n int) { c.Mss = n }},
		{"Mss alone", 1, 1024, func(c *api.Config, n int) { c.Mss, c.RecvBuf = n, max(n, 1) }},
		{"SendBuf", 1, 65536, func(c *api.Config, n int) { c.SendBuf = n }},
		{"RecvBuf", 4, 65536, func(c *api.Config, n int) { c.RecvBuf = n }},
		{"Gaps", 1, 64, func(c *api.Config, n int) { c.Gaps = n }},
		{"Retries", 1, 16, func(c *api.Config, n int) { c.Retries = n }},
		{"Bag", 1, 1 << 30, func(c *api.Config, n int) { c.Bag = n }},
		{"Sched", 0, 5, func(c *api.Config, n int) { c.Sched = n }},
		{"a weight", 1, 255, func(c *api.Config, n int) { c.Weights = []int{n, 1} }},
		{"the last weight", 1, 255, func(c *api.Config, n int) { c.Weights = []int{1, n} }},
	} {
		for _, n := range []int{b.least - 1, b.least, b.least + 1, b.most - 1, b.most, b.most + 1, 0, -1, math.MaxInt, math.MinInt} {
			c := config()
			b.set(&c, n)
			fits(t, b.what, c, n >= b.least && n <= b.most)
		}
	}
	for paths := 1; paths <= 8; paths++ {
		for n := range 12 {
			c := config()
			c.Paths, c.Weights = paths, make([]int, n)
			for i := range n {
				c.Weights[i] = 255 - i
			}
			fits(t, "how many weights", c, n <= paths)
		}
	}
}

// P13.1: both Bases; Keys and Picks may be any.
func TestFitNumbers(t *testing.T) {
	for _, base := range []uint64{0, 1<<62 - 1, 1 << 62, 1<<62 + 1, 1 << 63, math.MaxUint64} {
		for side := range 2 {
			c := config()
			c.Base[side] = base
			fits(t, "Base", c, base <= 1<<62)
		}
	}
	for sched := range api.NumScheds {
		c := config()
		c.Sched = sched
		c.Keys = [2]uint64{math.MaxUint64, 0}
		c.Picks = [2][]api.Pick{{{Path: -1, Off: math.MaxUint64, Len: math.MinInt}}, {{Path: math.MaxInt, Len: math.MaxInt}}}
		fits(t, "Keys and Picks", c, true)
	}
	fits(t, "the zero one", api.Config{}, false)
}

// P13.2, P13.11: of the side the lowest bit counts; how a new one stands.
func TestSides(t *testing.T) {
	for _, side := range []int{0, 1, 2, 3, -1, -2, 255, 256, math.MinInt, math.MaxInt} {
		for n := 1; n <= 8; n++ {
			base, peer := uint64(0), uint64(1000)
			if side%2 != 0 {
				base, peer = peer, base
			}
			want := api.Stat{Acked: base, High: base, End: base, Edge: base + 12, Free: 20, Next: peer, Own: peer + 12}
			want.Paths = []api.PathStat{fresh(3)}
			for range n - 1 {
				want.Paths = append(want.Paths, fresh(0))
			}
			e := end(t, side, paths(n))
			if s := e.Stat(); !reflect.DeepEqual(s, want) {
				t.Errorf("side %d: %+v, want %+v", side, s, want)
			}
			sends(t, e)
			writes(t, e, "ab", 2)
			sends(t, e, data(0, base, "ab"))
			answers(t, e, data(0, peer, "xyz"), ack(0, 1), dack(peer+3, peer+12))
			joined(t, e, side&1, n-1)
			does(t, e.Abort, api.OK)
			for i, f := range out(t, e) {
				if !reflect.DeepEqual(f, on(i, rst([]uint64{9, 7}[side&1]))) {
					t.Errorf("side %d: %+v", side, f)
				}
			}
		}
	}
}

// P13.2, E5, E9: of keys at the ends of their type the tokens are right too, and so is the handshake.
func TestKeys(t *testing.T) {
	for _, keys := range [][2]uint64{{0, math.MaxUint64}, {math.MaxUint64, 0}, {1 << 63, 1}, {5, 5}} {
		change := func(c *api.Config) { c.Keys = keys }
		a, b := end(t, 0, change), end(t, 1, change)
		a.Join(1, true)
		carry(a, b)
		carry(b, a)
		carry(a, b)
		state(t, a, 3, 3)
		state(t, b, 3, 3)
		a.Abort()
		sends(t, a, rst(keys[1]), on(1, rst(keys[1])))
		answers(t, b, rst(keys[1]))
		broken(t, b, api.ErrReset)
		b = end(t, 1, change)
		b.Abort()
		sends(t, b, rst(keys[0]))
	}
	a, b := end(t, 0), end(t, 1, func(c *api.Config) { c.Keys = [2]uint64{7, 8} })
	a.Join(1, true)
	carry(a, b)
	state(t, b, 3, 0)
}

// An End that New did not give.
func TestNobody(t *testing.T) {
	for what, e := range map[string]*conn.End{"nil": nil, "plain": {}} {
		for range 2 {
			if n, bad := e.Write([]byte("x")); n != 0 || bad != api.ErrConfig {
				t.Errorf("%s: Write %d %v", what, n, bad)
			}
			if b, ended, bad := e.Read(1); b != nil || ended || bad != api.ErrConfig {
				t.Errorf("%s: Read %q %v %v", what, b, ended, bad)
			}
			does(t, e.Close, api.ErrConfig)
			does(t, e.Abort, api.ErrConfig)
			for _, n := range []int{60000, math.MinInt, math.MaxInt} {
				e.Tick(n)
			}
			for _, path := range []int{0, 1, 7, 8, -1, math.MinInt, math.MaxInt} {
				e.Join(path, true)
				e.Prio(path, true)
				e.Leave(path)
				e.Receive(path, nil)
				e.Receive(path, encoded(t, probe(0)))
				e.Receive(path, encoded(t, rst(0)))
			}
			if l := e.Out(); len(l) != 0 {
				t.Errorf("%s: Out %+v", what, l)
			}
			if s := e.Stat(); !reflect.DeepEqual(s, api.Stat{}) {
				t.Errorf("%s: Stat %+v", what, s)
			}
		}
	}
}

// scribble writes over bytes and their spare room.
func scribble(b []byte) {
	b = b[:cap(b)]
	for i := range b {
		b[i] ^= 0x5a
	}
}

// P13.3, 0.4: what is handed in may be written to afterwards, and is not changed; what is handed out is new, spare room too.
func TestMemory(t *testing.T) {
	e := end(t, 0)
	p := append(make([]byte, 0, 90), fifty[:12]...)
	copy(p[12:90], strings.Repeat("~", 78))
	if n, bad := e.Write(p); n != 12 || bad != api.OK {
		t.Fatal(n, bad)
	}
	if string(p) != fifty[:12] || string(p[12:60]) != strings.Repeat("~", 48) {
		t.Error("Write has changed what was handed in")
	}
	scribble(p)
	first := e.Out()
	for _, o := range first {
		scribble(o.Bytes)
	}
	first = first[:cap(first)]
	kept := slices.Clone(first)
	ticks(t, e, 1000, data(3, 0, "abcd")) // one frame is a window behind a timeout
	if !reflect.DeepEqual(first, kept) {
		t.Error("Out has changed what it handed out")
	}

	for _, f := range []api.Frame{data(0, 1000, "wxyz"), ack(3, 4), dack(4, 16)} {
		b := append(encoded(t, f), make([]byte, 40)...)
		heard := bytes.Clone(b)
		e.Receive(0, b[:len(b)-40])
		if !bytes.Equal(b, heard) {
			t.Error("Receive has changed what was handed in")
		}
		scribble(b)
	}
	e.Out()
	got, _, _ := e.Read(2)
	if string(got) != "wx" {
		t.Errorf("%q", got)
	}
	scribble(got)
	s := e.Stat()
	for i := range s.Paths {
		s.Paths[i] = api.PathStat{Strikes: 99}
	}
	reads(t, e, 9, "yz", false)
	sends(t, e, dack(1004, 1014), dack(1004, 1016))
	if s := e.Stat(); s.Paths[0].Strikes != 0 || s.Paths[1].State != 0 || s.Acked != 4 || s.Edge != 16 {
		t.Errorf("%+v", s)
	}
}

// 0.3, 0.4: a configuration's lists are not kept, nor changed; two sides know nothing of one another.
func TestConfigIsNotKept(t *testing.T) {
	for sched := range api.NumScheds {
		c := config()
		wide(&c)
		c.Sched = sched
		c.Weights = append(make([]int, 0, 9), 3, 2)
		c.Picks = [2][]api.Pick{{{Off: 0, Len: 4}, {Path: 1, Off: 4, Len: 4}, {Len: -1}, {Off: 8, Len: 4}}, nil}
		play := func(spoil bool) []api.Frame {
			mine := c
			mine.Weights = slices.Clone(c.Weights)
			mine.Picks[0] = slices.Clone(c.Picks[0])
			e, bad := conn.New(mine, 0)
			other, _ := conn.New(mine, 0)
			if bad != api.OK {
				t.Fatal(bad)
			}
			if !slices.Equal(mine.Weights, c.Weights) || !slices.Equal(mine.Picks[0], c.Picks[0]) {
				t.Error("New has changed what was handed in")
			}
			if spoil {
				clear(mine.Weights[:cap(mine.Weights)])
				clear(mine.Picks[0])
				other.Write([]byte("other"))
				other.Tick(60000)
				other.Abort()
			}
			joined(t, e, 0, 1)
			e.Write([]byte(fifty))
			e.Write([]byte(fifty))
			return out(t, e)
		}
		if a, b := play(false), play(true); len(a) == 0 || !reflect.DeepEqual(a, b) {
			t.Errorf("scheduler %d: %+v, want %+v", sched, b, a)
		}
	}
}

// broken fails unless every call answers this error, and nothing is sent or heard; the clock goes on.
func broken(t *testing.T, e *conn.End, why api.Errno) {
	t.Helper()
	before := e.Stat()
	for range 2 {
		if n, bad := e.Write([]byte("xyz")); n != 0 || bad != why {
			t.Errorf("Write: %d %v, want %v", n, bad, why)
		}
		if b, ended, bad := e.Read(9); b != nil || ended || bad != why {
			t.Errorf("Read: %q %v %v, want %v", b, ended, bad, why)
		}
		does(t, e.Close, why)
		does(t, e.Abort, why)
	}
	for path := range before.Paths {
		asked := api.Frame{Kind: api.KindJoin, Token: tokenOf(9), Nonce: 5, Backup: true}
		for _, f := range []api.Frame{data(0, 0, "a"), data(0, 1000, "a"), fin(0, 0), fin(0, 1000), probe(0), ack(0, 1), dack(1, 1<<40), rst(7), rst(9), asked, prio(true), gone(0), gone(1)} {
			hear(t, e, on(path, f))
		}
		e.Join(path, true)
		e.Prio(path, true)
		e.Leave(path)
	}
	if s := e.Stat(); s.Err != why || !reflect.DeepEqual(s, before) {
		t.Errorf("behind %v: %+v, ahead of it %+v", why, s, before)
	}
	for _, ms := range []int{1000, 60000, -5, 1 << 30} {
		e.Tick(ms)
	}
	after := before
	after.Clock += 61000 + 1<<30
	if s := e.Stat(); !reflect.DeepEqual(s, after) {
		t.Errorf("ticks behind %v: %+v, want %+v", why, s, after)
	}
	sends(t, e)
}
