package ends_test

import (
	"bytes"
	"crypto/sha256"
	"encoding/binary"
	"math"
	"reflect"
	"testing"

	"braid/api"
	"braid/ends"
	"braid/wire"
)

func config() api.Config {
	return api.Config{Paths: 3, Mss: 4, SendBuf: 60, RecvBuf: 40, Gaps: 2, Retries: 1, Bag: 100, Weights: []int{1, 255}, Keys: [2]uint64{7, 9}, Base: [2]uint64{0, 1000}}
}

func owner(t *testing.T, side int) *ends.Owner {
	t.Helper()
	o, bad := ends.New(config(), side)
	if bad != api.OK {
		t.Fatal(bad)
	}
	return o
}

// tokenOf reckons a key's token by Go's library.
func tokenOf(key uint64) uint32 {
	s := sha256.Sum256(binary.BigEndian.AppendUint64(nil, key))
	return binary.BigEndian.Uint32(s[:])
}

// sends fails unless just these frames are to be sent.
func sends(t *testing.T, o *ends.Owner, want ...api.Frame) {
	t.Helper()
	l := o.Out()
	if len(l) != len(want) {
		t.Fatalf("%d frames, want %d", len(l), len(want))
	}
	for i, x := range l {
		f, bad := wire.Decode(x.Bytes)
		if bad != api.OK || x.Path != f.Path || !reflect.DeepEqual(f, want[i]) {
			t.Errorf("frame %d: %+v %v on path %d, want %+v", i, f, bad, x.Path, want[i])
		}
	}
}

// P13.1: each number below, at and above its bounds.
func TestFitBounds(t *testing.T) {
	for _, b := range []struct {
		what        string
		least, most int
		set         func(c *api.Config, n int)
	}{
		{"Paths", 2, 8, func(c *api.Config, n int) { c.Paths = n }}, // there are two Weights
		{"Mss", 1, 40, func(c *api.Config, n int) { c.Mss = n }},
		{"Mss alone", 1, 1024, func(c *api.Config, n int) { c.Mss, c.RecvBuf = n, max(n, 1) }},
		{"SendBuf", 1, 65536, func(c *api.Config, n int) { c.SendBuf = n }},
		{"RecvBuf", 4, 65536, func(c *api.Config, n int) { c.RecvBuf = n }},
		{"Gaps", 1, 64, func(c *api.Config, n int) { c.Gaps = n }},
		{"Retries", 1, 16, func(c *api.Config, n int) { c.Retries = n }},
		{"Bag", 1, 1 << 30, func(c *api.Config, n int) { c.Bag = n }},
		{"Sched", 0, 5, func(c *api.Config, n int) { c.Sched = n }},
		{"a weight", 1, 255, func(c *api.Config, n int) { c.Weights = []int{n, 1, 1} }},
		{"the last weight", 1, 255, func(c *api.Config, n int) { c.Weights = []int{1, 1, n} }},
		{"paths alone", 1, 8, func(c *api.Config, n int) { c.Paths, c.Weights = n, nil }},
	} {
		for _, n := range []int{b.least - 1, b.least, b.least + 1, b.most - 1, b.most, b.most + 1, 0, -1, math.MaxInt, math.MinInt} {
			c := config()
			b.set(&c, n)
			fits(t, b.what, c, n >= b.least && n <= b.most)
		}
	}
	for n := range 12 {
		c := config()
		c.Weights = []int{1, 2, 3, 4, 5, 6, 7, 8, 9, 10, 11, 12}[:n]
		fits(t, "how many weights", c, n <= 3)
		c.Paths = 8
		fits(t, "how many weights of all paths", c, n <= 8)
	}
}

// fits fails unless Fit and New agree that a configuration may be, or may not.
func fits(t *testing.T, what string, c api.Config, may bool) {
	t.Helper()
	want := api.ErrConfig
	if may {
		want = api.OK
	}
	if bad := ends.Fit(c); bad != want {
		t.Errorf("%s: Fit %v, want %v, of %+v", what, bad, want, c)
	}
	if o, bad := ends.New(c, 0); bad != want || (o != nil) != may {
		t.Errorf("%s: New %v, want %v, of %+v", what, bad, want, c)
	}
}

// P13.1: both Bases; Keys and Picks may be any.
func TestFitNumbers(t *testing.T) {
	for _, base := range []uint64{0, 1<<62 - 1, 1 << 62, 1<<62 + 1, 1 << 63, math.MaxUint64} {
		for side := range 2 {
			c := config()
			c.Base[side] = base
			fits(t, "Base", c, base <= 1<<62)
		}
	}
	c := config()
	c.Keys = [2]uint64{math.MaxUint64, 0}
	c.Picks = [2][]api.Pick{{{Path: -1, Off: math.MaxUint64, Len: math.MinInt}}, nil}
	fits(t, "Keys and Picks", c, true)
	fits(t, "the zero one", api.Config{}, false)
}

// E6, P13.2: the buffers of each side, of which the lowest bit counts.
func TestBuffers(t *testing.T) {
	for _, side := range []int{0, 1, 2, 3, -1, -2, math.MaxInt, math.MinInt} {
		c := config()
		own, peer := c.Base[side&1], c.Base[1-side&1]
		s := owner(t, side).Stat()
		want := api.Stat{Acked: own, High: own, End: own, Edge: own + 40, Free: 60, Next: peer, Own: peer + 40}
		if !reflect.DeepEqual(s, want) {
			t.Errorf("side %d: %+v, want %+v", side, s, want)
		}
		o := owner(t, side)
		if n, bad := o.Write(make([]byte, 61)); n != 60 || bad != api.OK {
			t.Errorf("side %d: Write %d %v", side, n, bad)
		}
		if l := o.Send.Chunks(); len(l) != 15 || l[14].Len != 4 {
			t.Errorf("side %d: chunks %+v", side, l)
		}
		for i := range 3 { // two stretches may lie apart
			_, bad := o.Recv.Take(peer+2+uint64(2*i), []byte("x"))
			if (bad == api.OK) != (i < 2) {
				t.Errorf("side %d, stretch %d: %v", side, i, bad)
			}
		}
		if x := o.Stat(); x.Stored != 2 || x.Holes != 2 || x.Ready != 0 {
			t.Errorf("side %d: %+v", side, x)
		}
	}
}

// E1, E2, E4: Write and Close, ahead of Close, behind it, and behind an error.
func TestWriteAndClose(t *testing.T) {
	o := owner(t, 0)
	if n, bad := o.Write([]byte("abcde")); n != 5 || bad != api.OK {
		t.Error(n, bad)
	}
	if bad := o.Close(); bad != api.OK {
		t.Error(bad)
	}
	if bad := o.Close(); bad != api.ErrClosed {
		t.Error(bad)
	}
	if n, bad := o.Write([]byte("f")); n != 0 || bad != api.ErrClosed {
		t.Error(n, bad)
	}
	o.Break(api.ErrDead)
	sends(t, o)
	if n, bad := o.Write([]byte("f")); n != 0 || bad != api.ErrDead {
		t.Error(n, bad)
	}
	if bad := o.Close(); bad != api.ErrDead {
		t.Error(bad)
	}
	if bad := o.Abort(0, 1); bad != api.ErrDead {
		t.Error(bad)
	}
	sends(t, o)
	if s := o.Stat(); s.Err != api.ErrDead || !s.Closed || s.End != 5 {
		t.Errorf("%+v", s)
	}
}

// E3: Read, with bytes and without, at the end, with any number; its DACK goes out on the path that is named.
func TestRead(t *testing.T) {
	o := owner(t, 1)
	if _, bad := o.Recv.Take(0, []byte("abc")); bad != api.OK || o.Recv.Fin(3) != api.OK {
		t.Fatal("Take, Fin")
	}
	for _, n := range []int{0, -1, math.MinInt} {
		if b, end, bad := o.Read(n, 2); len(b) != 0 || end || bad != api.OK {
			t.Error(n, b, end, bad)
		}
	}
	sends(t, o)
	if b, end, bad := o.Read(2, 2); string(b) != "ab" || end || bad != api.OK {
		t.Error(b, end, bad)
	}
	sends(t, o, api.Frame{Kind: api.KindDack, Path: 2, Off: 4, Edge: 42})
	if b, end, bad := o.Read(math.MaxInt, 0); string(b) != "c" || end || bad != api.OK {
		t.Error(b, end, bad)
	}
	sends(t, o, api.Frame{Kind: api.KindDack, Path: 0, Off: 4, Edge: 43})
	for _, n := range []int{0, 1, math.MinInt, math.MaxInt} {
		if b, end, bad := o.Read(n, 0); len(b) != 0 || !end || bad != api.OK {
			t.Error(n, b, end, bad)
		}
	}
	o.HearReset(tokenOf(9))
	if b, end, bad := o.Read(1, 0); b != nil || end || bad != api.ErrReset {
		t.Error(b, end, bad)
	}
	sends(t, o)
}

// E5, E9: RST bears the peer's token on each of the paths; one that bears this side's is heard.
func TestResets(t *testing.T) {
	for side, keys := range [2][2]uint64{{7, 9}, {9, 7}} {
		o := owner(t, side)
		o.HearReset(tokenOf(keys[1]))
		o.HearReset(0)
		if o.Err != api.OK {
			t.Errorf("side %d: %v", side, o.Err)
		}
		if bad := o.Abort(0, 2, 7); bad != api.OK || o.Err != api.ErrAborted {
			t.Errorf("side %d: %v %v", side, bad, o.Err)
		}
		r := api.Frame{Kind: api.KindRst, Token: tokenOf(keys[1])}
		r2, r7 := r, r
		r2.Path, r7.Path = 2, 7
		sends(t, o, r, r2, r7)
		o = owner(t, side)
		o.HearReset(tokenOf(keys[0]))
		if o.Err != api.ErrReset {
			t.Errorf("side %d: %v", side, o.Err)
		}
		sends(t, o)
	}
}

// P13.10: one tick is 0 to MaxTick, and the clock stands still at MaxClock.
func TestClock(t *testing.T) {
	o := owner(t, 0)
	for _, x := range []struct {
		from uint64
		ms   int
		to   uint64
	}{
		{0, 0, 0}, {5, -1, 5}, {5, math.MinInt, 5}, {5, 1, 6},
		{5, 1<<30 - 1, 1<<30 + 4}, {5, 1 << 30, 1<<30 + 5}, {5, 1<<30 + 1, 1<<30 + 5}, {5, math.MaxInt, 1<<30 + 5},
		{1<<62 - 2, 1, 1<<62 - 1}, {1<<62 - 2, 2, 1 << 62}, {1<<62 - 2, 3, 1 << 62}, {1 << 62, 0, 1 << 62}, {1 << 62, math.MaxInt, 1 << 62},
	} {
		o.Clock = x.from
		if o.GoOn(x.ms); o.Clock != x.to || o.Stat().Clock != x.to {
			t.Errorf("%d and %d ms: %d, want %d", x.from, x.ms, o.Clock, x.to)
		}
	}
}

// P12.7, P13.10: the while is Quiet, or less if this side's stream waits.
func TestWhile(t *testing.T) {
	o := owner(t, 0)
	while := func(what string, waits bool) {
		t.Helper()
		for _, rto := range []uint64{0, 200, 9999, 10000, 10001, math.MaxUint64} {
			want := uint64(10000)
			if waits {
				want = min(want, rto)
			}
			if got := o.While(rto); got != want {
				t.Errorf("%s, rto %d: %d, want %d", what, rto, got, want)
			}
		}
	}
	while("nothing written", false)
	o.Write([]byte("abcde"))
	while("written", true)
	o.Send.Sent(0, 0)
	o.Send.Sent(0, 4)
	o.Send.Ack(4, 0)
	while("not all has come", true)
	o.Send.Ack(5, 0)
	while("all has come", false)
	o.Close()
	while("closed", true)
	o.Send.Sent(0, 5)
	o.Send.Ack(6, 0)
	while("the end has come", false)
}

// E10: done is a side of which both streams have ended, and come.
func TestDone(t *testing.T) {
	for row := range 8 {
		o := owner(t, 0)
		closes, told, ended := row&1 != 0, row&2 != 0, row&4 != 0
		if closes {
			o.Close()
			o.Send.Sent(0, 0)
		}
		if told {
			o.Send.Ack(1, 0)
		}
		o.Recv.Take(1000, []byte("x"))
		if ended {
			o.Recv.Fin(1001)
		}
		if want := row == 7; o.Done() != want || o.Stat().Done != want {
			t.Errorf("closed %v, told %v, ended %v: done %v", closes, told, ended, o.Done())
		}
	}
	o := owner(t, 0)
	o.Close()
	o.Send.Sent(0, 0)
	o.Send.Ack(1, 0)
	o.Recv.Fin(1001) // the byte ahead of it has not come
	if o.Done() {
		t.Error("done ahead of the last byte")
	}
}

// P13.3, 0.4: Out gives what has come to be since it was asked, in memory that nobody else has.
func TestOut(t *testing.T) {
	o := owner(t, 0)
	if l := o.Out(); len(l) != 0 {
		t.Error(l)
	}
	o.Dack(1)
	o.Post(api.Frame{Kind: api.KindProbe, Path: 2, Num: 5})
	first := o.Out()
	if len(first) != 2 || first[0].Path != 1 || first[1].Path != 2 {
		t.Fatal(first)
	}
	kept := bytes.Clone(first[1].Bytes)
	o.Dack(0)
	o.Dack(3)
	second := o.Out()
	for _, x := range second {
		for i := range x.Bytes[:cap(x.Bytes)] {
			x.Bytes[:cap(x.Bytes)][i] ^= 255
		}
	}
	_ = append(second[:0], api.Out{Path: 9}, api.Out{Path: 9})
	if first[1].Path != 2 || !bytes.Equal(first[1].Bytes, kept) {
		t.Error("what was handed out is another one now")
	}
	o.Dack(0)
	sends(t, o, api.Frame{Kind: api.KindDack, Off: 1000, Edge: 1040})
	sends(t, o)
}
