package gobackn_test

import (
	"bytes"
	"crypto/sha256"
	"encoding/binary"
	"math"
	"reflect"
	"slices"
	"strings"
	"testing"

	"braid/api"
	"braid/gobackn"
	"braid/wire"
)

// config is the chapter's C.
func config() api.Config {
	return api.Config{Paths: 1, Mss: 4, SendBuf: 60, RecvBuf: 40, Gaps: 1, Retries: 1, Bag: 100, Sched: api.Single, Keys: [2]uint64{7, 9}, Base: [2]uint64{0, 1000}}
}

// end is a side of the chapter's C, with changes.
func end(t *testing.T, side int, changes ...func(*api.Config)) *gobackn.End {
	t.Helper()
	c := config()
	for _, change := range changes {
		change(&c)
	}
	e, bad := gobackn.New(c, side)
	if bad != api.OK || e == nil {
		t.Fatalf("New: %v", bad)
	}
	return e
}

func retries(n int) func(*api.Config) { return func(c *api.Config) { c.Retries = n } }

func mss(n int) func(*api.Config) { return func(c *api.Config) { c.Mss = n } }

// tokenOf reckons a key's token by Go's library.
func tokenOf(key uint64) uint32 {
	s := sha256.Sum256(binary.BigEndian.AppendUint64(nil, key))
	return binary.BigEndian.Uint32(s[:])
}

// The frames of path 0.
func data(num, off uint64, text string) api.Frame {
	return api.Frame{Kind: api.KindData, Num: num, Off: off, Data: []byte(text)}
}

func fin(num, off uint64) api.Frame { return api.Frame{Kind: api.KindFin, Num: num, Off: off} }

func probe(num uint64) api.Frame { return api.Frame{Kind: api.KindProbe, Num: num} }

func ack(hi uint64) api.Frame {
	return api.Frame{Kind: api.KindAck, Ranges: []api.Range{{Hi: hi}}}
}

func dack(off, edge uint64) api.Frame {
	return api.Frame{Kind: api.KindDack, Off: off, Edge: edge}
}

func rst(key uint64) api.Frame { return api.Frame{Kind: api.KindRst, Token: tokenOf(key)} }

// row is chunks that are cut out of a text, with places and offsets from these on.
func row(place, off uint64, text string, size int) []api.Frame {
	var l []api.Frame
	for len(text) > 0 {
		n := min(size, len(text))
		l = append(l, data(place, off, text[:n]))
		place++
		off += uint64(n)
		text = text[n:]
	}
	return l
}

// out is the frames that are to be sent, read.
func out(t *testing.T, e *gobackn.End) []api.Frame {
	t.Helper()
	var l []api.Frame
	for _, o := range e.Out() {
		f, bad := wire.Decode(o.Bytes)
		if bad != api.OK || o.Path != 0 {
			t.Fatalf("%+v: %v", o, bad)
		}
		l = append(l, f)
	}
	return l
}

// sends fails unless just these frames are to be sent.
func sends(t *testing.T, e *gobackn.End, want ...api.Frame) {
	t.Helper()
	if l := out(t, e); len(l) != len(want) || len(l) > 0 && !reflect.DeepEqual(l, want) {
		t.Errorf("sends %+v, want %+v", l, want)
	}
}

// hear lets a side hear a frame on path 0.
func hear(t *testing.T, e *gobackn.End, f api.Frame) {
	t.Helper()
	b, bad := wire.Encode(f)
	if bad != api.OK {
		t.Fatalf("%+v: %v", f, bad)
	}
	e.Receive(0, b)
}

// answers fails unless a side that hears a frame sends just these.
func answers(t *testing.T, e *gobackn.End, f api.Frame, want ...api.Frame) {
	t.Helper()
	hear(t, e, f)
	sends(t, e, want...)
}

// ticks fails unless a side sends just these frames at a tick.
func ticks(t *testing.T, e *gobackn.End, ms int, want ...api.Frame) {
	t.Helper()
	e.Tick(ms)
	sends(t, e, want...)
}

// writes fails unless a side accepts just the first n bytes of a text.
func writes(t *testing.T, e *gobackn.End, text string, n int) {
	t.Helper()
	if got, bad := e.Write([]byte(text)); got != n || bad != api.OK {
		t.Errorf("Write of %d bytes: %d %v, want %d", len(text), got, bad, n)
	}
}

// reads fails unless a side reads just this text, and the end or not.
func reads(t *testing.T, e *gobackn.End, n int, text string, atEnd bool) {
	t.Helper()
	if b, ended, bad := e.Read(n); string(b) != text || ended != atEnd || bad != api.OK {
		t.Errorf("Read(%d): %q %v %v, want %q %v", n, b, ended, bad, text, atEnd)
	}
}

// path fails unless a side's path stands so.
func path(t *testing.T, e *gobackn.End, strikes, inflight int, rto uint64) {
	t.Helper()
	want := []api.PathStat{{State: 3, Strikes: strikes, Inflight: inflight, Window: api.Window{Cwnd: 8192, Thresh: 8192}, Rto: rto}}
	if s := e.Stat(); !reflect.DeepEqual(s.Paths, want) {
		t.Errorf("path %+v, want %+v", s.Paths, want)
	}
}

// broken fails unless every call answers this error, and nothing is sent or heard.
func broken(t *testing.T, e *gobackn.End, why api.Errno) {
	t.Helper()
	if n, bad := e.Write([]byte("xyz")); n != 0 || bad != why {
		t.Errorf("Write: %d %v, want %v", n, bad, why)
	}
	if b, ended, bad := e.Read(9); len(b) != 0 || ended || bad != why {
		t.Errorf("Read: %q %v %v, want %v", b, ended, bad, why)
	}
	if bad := e.Close(); bad != why {
		t.Errorf("Close: %v, want %v", bad, why)
	}
	if bad := e.Abort(); bad != why {
		t.Errorf("Abort: %v, want %v", bad, why)
	}
	before := e.Stat()
	for _, f := range []api.Frame{data(0, 0, "a"), data(0, 1000, "a"), fin(0, 0), fin(0, 1000), probe(0), ack(1), dack(1, 1<<40), rst(7), rst(9)} {
		hear(t, e, f)
	}
	if s := e.Stat(); s.Err != why || !reflect.DeepEqual(s, before) {
		t.Errorf("heard behind %v: %+v, ahead of it %+v", why, s, before)
	}
	for _, ms := range []int{1000, 60000, -5, 1 << 30} {
		e.Tick(ms)
	}
	after := before
	after.Clock += 61000 + 1<<30
	if s := e.Stat(); !reflect.DeepEqual(s, after) {
		t.Errorf("ticks behind %v: %+v, want %+v", why, s, after)
	}
	sends(t, e)
}

const fifty = "abcdefghijklmnopqrstuvwxyzABCDEFGHIJKLMNOPQRSTUVWX"

// The chapter's examples 1 to 5.
func TestExamples(t *testing.T) {
	a, b := end(t, 0), end(t, 1)
	chunks := row(0, 0, fifty, 4)
	writes(t, a, fifty, 50)
	sends(t, a, chunks[:8]...)
	if a.Stat().High != 32 {
		t.Errorf("%+v", a.Stat())
	}
	path(t, a, 0, 8, 1000)

	answers(t, b, chunks[1], dack(0, 40))
	answers(t, b, chunks[0], ack(1), dack(4, 40))
	answers(t, b, chunks[0], ack(1), dack(4, 40))
	answers(t, b, chunks[1], ack(2), dack(8, 40))

	answers(t, a, ack(2), chunks[8], chunks[9])
	path(t, a, 0, 8, 1000)
	answers(t, a, dack(8, 40))
	if a.Stat().Free != 18 {
		t.Errorf("%+v", a.Stat())
	}
	answers(t, a, ack(11))
	path(t, a, 0, 8, 1000)

	ticks(t, a, 999)
	ticks(t, a, 1, chunks[2:10]...)
	path(t, a, 1, 8, 2000)
	ticks(t, a, 2000, probe(0))
	path(t, a, 2, 1, 4000)
	answers(t, b, probe(0), ack(2), dack(8, 40))
	answers(t, a, dack(8, 40), chunks[2:10]...)
	path(t, a, 0, 8, 1000)

	reads(t, b, 100, fifty[:8], false)
	sends(t, b, dack(8, 48))
	answers(t, a, dack(8, 48))
	if a.Stat().Edge != 48 {
		t.Errorf("%+v", a.Stat())
	}
}

// The chapter's example 6.
func TestExampleOfProbes(t *testing.T) {
	a, b := end(t, 0), end(t, 1)
	if bad := a.Close(); bad != api.OK {
		t.Error(bad)
	}
	sends(t, a, fin(0, 0))
	ticks(t, b, 10000, probe(0))
	ticks(t, b, 1000)
	path(t, b, 1, 0, 2000)
	ticks(t, b, 2000)
	ticks(t, b, 4000)
	ticks(t, b, 3000, probe(0))
	path(t, b, 1, 1, 2000)
}

// DOC.md's third example: a frame that is spoilt on its way goes out again.
func TestExampleOfTheWhole(t *testing.T) {
	change := func(c *api.Config) {
		c.Mss, c.RecvBuf, c.SendBuf, c.Base = 3, 1000, 1000, [2]uint64{}
	}
	a, b := end(t, 0, change), end(t, 1, change)
	writes(t, b, "hello", 5)
	l := b.Out()
	l[0].Bytes[21] ^= 1
	for _, o := range l {
		a.Receive(0, o.Bytes)
	}
	sends(t, a, dack(0, 1000))
	hear(t, b, dack(0, 1000))
	reads(t, a, 9, "", false)
	ticks(t, b, 1000, row(0, 0, "hello", 3)...)
	for _, f := range row(0, 0, "hello", 3) {
		hear(t, a, f)
	}
	sends(t, a, ack(1), dack(3, 1000), ack(2), dack(5, 1000))
	reads(t, a, 9, "hello", false)
}

// P12.1: a configuration that may not be gives nothing; bounds one by one.
func TestNewBounds(t *testing.T) {
	for _, b := range []struct {
		what        string
		least, most int
		set         func(c *api.Config, n int)
	}{
		{"Paths", 1, 8, func(c *api.Config, n int) { c.Paths = n }},
		{"Mss", 1, 1024, func(c *api.Config, n int) { c.Mss, c.RecvBuf = n, max(n, 1) }},
		{"SendBuf", 1, 65536, func(c *api.Config, n int) { c.SendBuf = n }},
		{"RecvBuf", 4, 65536, func(c *api.Config, n int) { c.RecvBuf = n }},
		{"Gaps", 1, 64, func(c *api.Config, n int) { c.Gaps = n }},
		{"Retries", 1, 16, func(c *api.Config, n int) { c.Retries = n }},
		{"Bag", 1, 1 << 30, func(c *api.Config, n int) { c.Bag = n }},
		{"Sched", 0, 5, func(c *api.Config, n int) { c.Sched = n }},
		{"a weight", 1, 255, func(c *api.Config, n int) { c.Weights = []int{n} }},
		{"weights", 0, 1, func(c *api.Config, n int) { c.Weights = []int{1, 1, 1}[:min(max(n, 0), 3)] }},
		{"A's Base", 0, 1 << 62, func(c *api.Config, n int) { c.Base[0] = uint64(n) }},
		{"B's Base", 0, 1 << 62, func(c *api.Config, n int) { c.Base[1] = uint64(n) }},
	} {
		for _, n := range []int{b.least - 1, b.least, b.most, b.most + 1, math.MaxInt, math.MinInt} {
			c := config()
			b.set(&c, n)
			if b.what == "weights" && n < 0 {
				continue
			}
			e, bad := gobackn.New(c, 0)
			if may := n >= b.least && n <= b.most; may != (bad == api.OK) || may != (e != nil) || !may && bad != api.ErrConfig {
				t.Errorf("%s %d: %v", b.what, n, bad)
			}
		}
	}
}

// P12.1, P12.8: of the side the lowest bit counts; how a new one stands.
func TestSides(t *testing.T) {
	for _, side := range []int{0, 1, 2, 3, -1, -2, 255, 256, math.MinInt, math.MaxInt} {
		base, peer := uint64(0), uint64(1000)
		if side%2 != 0 {
			base, peer = peer, base
		}
		want := api.Stat{Acked: base, High: base, End: base, Edge: base + 40, Free: 60, Next: peer, Own: peer + 40}
		want.Paths = []api.PathStat{{State: 3, Window: api.Window{Cwnd: 8192, Thresh: 8192}, Rto: 1000}}
		e := end(t, side)
		if s := e.Stat(); !reflect.DeepEqual(s, want) {
			t.Errorf("side %d: %+v, want %+v", side, s, want)
		}
		sends(t, e)
		writes(t, e, "ab", 2)
		sends(t, e, data(0, base, "ab"))
		answers(t, e, data(0, peer, "xyz"), ack(1), dack(peer+3, peer+40))
		if bad := e.Abort(); bad != api.OK {
			t.Error(bad)
		}
		sends(t, e, rst([]uint64{9, 7}[side&1]))
	}
}

// An End that New did not give.
func TestNobody(t *testing.T) {
	for what, e := range map[string]*gobackn.End{"nil": nil, "plain": {}} {
		for range 2 {
			if n, bad := e.Write([]byte("x")); n != 0 || bad != api.ErrConfig {
				t.Errorf("%s: Write %d %v", what, n, bad)
			}
			if b, ended, bad := e.Read(1); b != nil || ended || bad != api.ErrConfig {
				t.Errorf("%s: Read %q %v %v", what, b, ended, bad)
			}
			if bad := e.Close(); bad != api.ErrConfig {
				t.Errorf("%s: Close %v", what, bad)
			}
			if bad := e.Abort(); bad != api.ErrConfig {
				t.Errorf("%s: Abort %v", what, bad)
			}
			e.Tick(60000)
			e.Tick(math.MinInt)
			e.Receive(0, nil)
			hear(t, e, probe(0))
			hear(t, e, rst(0))
			if l := e.Out(); len(l) != 0 {
				t.Errorf("%s: Out %+v", what, l)
			}
			if s := e.Stat(); !reflect.DeepEqual(s, api.Stat{}) {
				t.Errorf("%s: Stat %+v", what, s)
			}
		}
	}
}

// E1, E5, E9: behind Abort, an RST and death every call answers the error; the clock goes on.
func TestErrors(t *testing.T) {
	busy := func() *gobackn.End {
		e := end(t, 0)
		writes(t, e, fifty, 50)
		hear(t, e, data(0, 1000, "abc"))
		e.Out()
		return e
	}
	e := busy()
	if bad := e.Abort(); bad != api.OK {
		t.Error(bad)
	}
	sends(t, e, rst(9))
	broken(t, e, api.ErrAborted)

	e = busy()
	hear(t, e, rst(7))
	sends(t, e)
	broken(t, e, api.ErrReset)

	e = busy()
	for range 3 {
		e.Tick(60000)
	}
	l := out(t, e)
	if n := len(l); n < 2 || !reflect.DeepEqual(l[n-2:], []api.Frame{probe(0), rst(9)}) {
		t.Errorf("%+v", l)
	}
	broken(t, e, api.ErrDead)
}

// E1: what came to be ahead of an error still goes out.
func TestOutBehindError(t *testing.T) {
	e := end(t, 0)
	writes(t, e, "abcde", 5)
	e.Abort()
	sends(t, e, data(0, 0, "abcd"), data(1, 4, "e"), rst(9))
	e = end(t, 0)
	writes(t, e, "abcde", 5)
	hear(t, e, rst(7))
	sends(t, e, data(0, 0, "abcd"), data(1, 4, "e"))
}

// E2: as many bytes are accepted as there is room for; ErrClosed behind Close, an error ahead of it.
func TestWrite(t *testing.T) {
	e := end(t, 0, func(c *api.Config) { c.SendBuf = 10 })
	writes(t, e, "", 0)
	sends(t, e)
	writes(t, e, "abcdefg", 7)
	sends(t, e, data(0, 0, "abcd"), data(1, 4, "efg"))
	writes(t, e, "hijkl", 3)
	sends(t, e, data(2, 7, "hij"))
	writes(t, e, "k", 0)
	hear(t, e, ack(3)) // an ACK makes no room
	writes(t, e, "k", 0)
	hear(t, e, dack(5, 40)) // v does, within a chunk too
	writes(t, e, "klmnopqr", 5)
	sends(t, e, data(3, 10, "klmn"), data(4, 14, "o"))
	if bad := e.Close(); bad != api.OK {
		t.Error(bad)
	}
	sends(t, e, fin(5, 15))
	for range 2 {
		if n, bad := e.Write([]byte("p")); n != 0 || bad != api.ErrClosed {
			t.Error(n, bad)
		}
		if bad := e.Close(); bad != api.ErrClosed {
			t.Error(bad)
		}
	}
	sends(t, e)
	reads(t, e, 5, "", false)
	e.Abort()
	sends(t, e, rst(9))
	broken(t, e, api.ErrAborted) // not ErrClosed
}

// E2: no offset above MaxOff is made, and each that is can be told.
func TestLastOffsets(t *testing.T) {
	const most = 1 << 62
	e := end(t, 0, func(c *api.Config) { c.Base = [2]uint64{most, most} })
	writes(t, e, "a", 0)
	e.Close()
	sends(t, e, fin(0, most))
	answers(t, e, fin(0, most), ack(1), dack(most+1, most+40))
	reads(t, e, 1, "", true)
	answers(t, e, dack(most+1, most+40))
	if s := e.Stat(); !s.Done || s.Free != 60 {
		t.Errorf("%+v", s)
	}

	e = end(t, 1, func(c *api.Config) { c.Base = [2]uint64{most - 2, most - 5} })
	writes(t, e, "abcdefghi", 5)
	sends(t, e, data(0, most-5, "abcd"), data(1, most-1, "e"))
	writes(t, e, "f", 0)
	answers(t, e, data(0, most-2, "xy"), ack(1), dack(most, most+38))
	answers(t, e, dack(most, 1<<63))
	e.Close()
	sends(t, e, fin(2, most))
	answers(t, e, dack(most+1, 1<<63))
	if s := e.Stat(); s.Done || s.Acked != most+1 || s.Edge != 1<<63 || s.Own != most+38 {
		t.Errorf("%+v", s)
	}
}

// P12.1, P12.5: of keys at the ends of their type the tokens are right too.
func TestKeys(t *testing.T) {
	for _, keys := range [][2]uint64{{0, math.MaxUint64}, {math.MaxUint64, 0}, {1 << 63, 1}, {5, 5}} {
		change := func(c *api.Config) { c.Keys = keys }
		a, b := end(t, 0, change), end(t, 1, change)
		a.Abort()
		sends(t, a, rst(keys[1]))
		hear(t, b, rst(keys[1]))
		if s := b.Stat(); s.Err != api.ErrReset {
			t.Errorf("keys %v: %v", keys, s.Err)
		}
		b = end(t, 1, change)
		b.Abort()
		sends(t, b, rst(keys[0]))
	}
}

// E3: Read.
func TestRead(t *testing.T) {
	e := end(t, 1)
	reads(t, e, 9, "", false)
	hear(t, e, data(0, 0, "abcd"))
	hear(t, e, data(1, 4, "ef"))
	e.Out()
	for _, n := range []int{0, -1, math.MinInt} {
		reads(t, e, n, "", false)
		sends(t, e)
	}
	reads(t, e, 5, "abcde", false)
	sends(t, e, dack(6, 45))
	reads(t, e, 5, "f", false)
	sends(t, e, dack(6, 46))
	reads(t, e, 5, "", false)
	sends(t, e)
	answers(t, e, fin(2, 6), ack(3), dack(7, 46))
	for _, n := range []int{5, 0, -1, math.MaxInt, math.MinInt} {
		reads(t, e, n, "", true)
	}
	sends(t, e)
	e = end(t, 1)
	hear(t, e, data(0, 0, "abcd"))
	hear(t, e, fin(1, 4))
	e.Out()
	reads(t, e, math.MaxInt, "abcd", false)
	sends(t, e, dack(5, 44))
	reads(t, e, 0, "", true)
}

// P12.3: Read's DACK goes out on a dead path too.
func TestReadDead(t *testing.T) {
	e := end(t, 1)
	writes(t, e, "x", 1)
	hear(t, e, data(0, 0, "abcd"))
	e.Tick(1000)
	e.Tick(2000)
	e.Out()
	path(t, e, 2, 1, 4000)
	reads(t, e, 3, "abc", false)
	sends(t, e, dack(4, 43))
	writes(t, e, "y", 1) // a dead side sends no chunk
	e.Close()
	sends(t, e)
}

// E4, E6: the end goes out when every other chunk has gone out once, be it beyond the edge itself.
func TestClose(t *testing.T) {
	e := end(t, 0, func(c *api.Config) { c.RecvBuf = 8 })
	writes(t, e, "abcdefghijk", 11)
	if bad := e.Close(); bad != api.OK {
		t.Error(bad)
	}
	sends(t, e, data(0, 0, "abcd"), data(1, 4, "efgh"))
	answers(t, e, ack(2))
	answers(t, e, dack(8, 10))
	answers(t, e, dack(8, 11), data(2, 8, "ijk"), fin(3, 11))
	if s := e.Stat(); !s.Closed || s.High != 11 || s.End != 11 || s.Done {
		t.Errorf("%+v", s)
	}
	e = end(t, 0, func(c *api.Config) { c.RecvBuf = 8 })
	writes(t, e, "abcdefgh", 8)
	e.Close()
	sends(t, e, data(0, 0, "abcd"), data(1, 4, "efgh"), fin(2, 8))
}

// 0.4: what is handed in may be written to afterwards, and is not changed; what is handed out is new, spare room too.
func TestMemory(t *testing.T) {
	e := end(t, 0)
	p := append(make([]byte, 0, 90), fifty[:20]...)
	copy(p[20:90], strings.Repeat("~", 70))
	if n, bad := e.Write(p); n != 20 || bad != api.OK {
		t.Fatal(n, bad)
	}
	if string(p) != fifty[:20] || string(p[20:60]) != strings.Repeat("~", 40) {
		t.Error("Write has changed what was handed in")
	}
	scribble(p)
	first := e.Out()
	for _, o := range first {
		scribble(o.Bytes)
	}
	first = first[:cap(first)]
	kept := slices.Clone(first)
	ticks(t, e, 1000, row(0, 0, fifty[:20], 4)...)
	if !reflect.DeepEqual(first, kept) {
		t.Error("Out has changed what it handed out")
	}

	b, bad := wire.Encode(data(0, 1000, "wxyz"))
	if bad != api.OK {
		t.Fatal(bad)
	}
	heard := bytes.Clone(b)
	e.Receive(0, b)
	if !bytes.Equal(b, heard) {
		t.Error("Receive has changed what was handed in")
	}
	scribble(b)
	got, _, _ := e.Read(2)
	if string(got) != "wx" {
		t.Errorf("%q", got)
	}
	scribble(got)
	s := e.Stat()
	s.Paths[0].Strikes = 99
	reads(t, e, 9, "yz", false)
	sends(t, e, ack(1), dack(1004, 1040), dack(1004, 1042), dack(1004, 1044))
	path(t, e, 0, 5, 1000)
}

// scribble writes over bytes and their spare room.
func scribble(b []byte) {
	b = b[:cap(b)]
	for i := range b {
		b[i] ^= 0x5a
	}
}

// 0.3: what is in a configuration beside the numbers of this end is not looked at, and nothing of it is kept.
func TestConfigIsNotKept(t *testing.T) {
	play := func(c api.Config, spoil func()) []api.Frame {
		e, bad := gobackn.New(c, 0)
		if bad != api.OK {
			t.Fatal(bad)
		}
		spoil()
		e.Write([]byte(fifty))
		hear(t, e, ack(3))
		hear(t, e, dack(9, 70))
		e.Tick(1000)
		e.Close()
		hear(t, e, data(0, 1000, "abc"))
		e.Tick(60000)
		e.Tick(60000)
		return out(t, e)
	}
	want := play(config(), func() {})
	for paths := 1; paths <= 8; paths++ {
		for sched := range api.NumScheds {
			c := config()
			c.Paths, c.Sched, c.Bag = paths, sched, 1+sched
			c.Weights = []int{255, 1, 1, 1, 1, 1, 1, 1}[:paths]
			c.Picks = [2][]api.Pick{{{Path: 1, Off: 4, Len: 4}}, {{Path: 9}}}
			got := play(c, func() { c.Weights[0], c.Picks[0][0] = 0, api.Pick{} })
			if !reflect.DeepEqual(got, want) {
				t.Errorf("paths %d, scheduler %d: %+v, want %+v", paths, sched, got, want)
			}
		}
	}
}
