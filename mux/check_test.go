package mux_test

import (
	"bytes"
	"slices"
	"strings"
	"testing"

	"braid/api"
	"braid/mux"
	"braid/muxwire"
)

const (
	top       = uint64(api.MaxMuxNumber)
	greatest  = ^uint64(0)
	configErr = api.ErrMuxConfig
	brokenErr = api.ErrMuxBroken
	classErr  = api.ErrMuxClass
	awayErr   = api.ErrMuxAway
	fullErr   = api.ErrMuxFull
	streamErr = api.ErrMuxStream
	shutErr   = api.ErrMuxShut
	stopErr   = api.ErrMuxStopped
	deafErr   = api.ErrMuxDeaf
	resetErr  = api.ErrMuxReset
)

// check is a mux whose answers are held against what is awaited. A call that answers an error must leave it as it was; but for Read's ErrMuxReset, by which a stream may be forgotten.
type check struct {
	t *testing.T
	m *mux.Mux
}

func rooms(all, each uint64, streams int) api.Rooms {
	return api.Rooms{All: all, Each: each, Streams: streams}
}

// config is one whose sides grant the same.
func config(all, each uint64, streams, hold, quantum int) api.MuxConfig {
	r := rooms(all, each, streams)
	return api.MuxConfig{Own: r, Peer: r, Hold: hold, Quantum: quantum}
}

// small is the configuration of the chapter's examples.
func small() api.MuxConfig { return config(20, 8, 2, 12, 4) }

// wide is one in which nothing is scarce.
func wide() api.MuxConfig { return config(1<<30, 1<<20, 100, 1<<20, 1000) }

func begin(t *testing.T, side int, c api.MuxConfig) check {
	t.Helper()
	m, e := mux.New(side, c)
	if e != api.OK || m == nil {
		t.Fatalf("New(%d, %v): %d", side, c, e)
	}
	return check{t, m}
}

// The frames.
func opens(id uint64, class, share int) api.MuxFrame {
	return api.MuxFrame{Kind: api.MuxOpen, Stream: id, Class: class, Share: share}
}

func data(id uint64, text string) api.MuxFrame {
	return api.MuxFrame{Kind: api.MuxBytes, Stream: id, Data: []byte(text)}
}

func room(id, n uint64) api.MuxFrame {
	return api.MuxFrame{Kind: api.MuxRoom, Stream: id, N: n}
}

func end(id uint64) api.MuxFrame { return api.MuxFrame{Kind: api.MuxEnd, Stream: id} }

func stop(id, code uint64) api.MuxFrame {
	return api.MuxFrame{Kind: api.MuxStop, Stream: id, N: code}
}

func reset(id, code uint64) api.MuxFrame {
	return api.MuxFrame{Kind: api.MuxReset, Stream: id, N: code}
}

func ping(n uint64) api.MuxFrame { return api.MuxFrame{Kind: api.MuxPing, N: n} }
func pong(n uint64) api.MuxFrame { return api.MuxFrame{Kind: api.MuxPong, N: n} }

func away(id, code uint64) api.MuxFrame {
	return api.MuxFrame{Kind: api.MuxAway, Stream: id, N: code}
}

// wire is the bytes of frames.
func wire(t *testing.T, frames ...api.MuxFrame) []byte {
	t.Helper()
	var b []byte
	for _, f := range frames {
		x, e := muxwire.Encode(f)
		if e != api.OK {
			t.Fatalf("%+v is no frame: %d", f, e)
		}
		b = append(b, x...)
	}
	return b
}

// frames is what bytes are read as, which must be whole frames.
func frames(t *testing.T, b []byte) []api.MuxFrame {
	t.Helper()
	var l []api.MuxFrame
	for len(b) > 0 {
		f, n, e := muxwire.Decode(b)
		if e != api.OK {
			t.Fatalf("no frame: %x: %d", b[:min(len(b), 40)], e)
		}
		l = append(l, f)
		b = b[n:]
	}
	return l
}

func sameFrame(a, b api.MuxFrame) bool {
	return a.Kind == b.Kind && a.Stream == b.Stream && a.N == b.N && a.Class == b.Class && a.Share == b.Share && bytes.Equal(a.Data, b.Data)
}

func sameStat(a, b api.MuxStat) bool {
	return a.Broken == b.Broken && a.Out == b.Out && a.Opened == b.Opened && a.Heard == b.Heard && a.Away == b.Away && a.Gone == b.Gone && slices.Equal(a.Streams, b.Streams)
}

// answer holds one call against its error.
func (c check) answer(want api.Errno, call func() api.Errno, what string, args ...any) {
	c.t.Helper()
	before := c.m.Stat()
	e := call()
	if e != want {
		c.t.Errorf("%s%v: %d, want %d", what, args, e, want)
	}
	if after := c.m.Stat(); e != api.OK && e != resetErr && !sameStat(before, after) {
		c.t.Errorf("%s%v is an error, and yet %+v became %+v", what, args, before, after)
	}
}

// open awaits a stream of this number; 0: the error.
func (c check) open(class, share int, id uint64, want api.Errno) {
	c.t.Helper()
	c.answer(want, func() api.Errno {
		got, e := c.m.Open(class, share)
		if got != id {
			c.t.Errorf("Open(%d, %d): %d, want %d", class, share, got, id)
		}
		return e
	}, "Open", class, share)
}

// accept awaits these of Accept, one behind the other; 0: none.
func (c check) accept(ids ...uint64) {
	c.t.Helper()
	for _, want := range ids {
		if id, ok := c.m.Accept(); id != want || ok != (want != 0) {
			c.t.Errorf("Accept: %d, %v, want %d", id, ok, want)
		}
	}
}

func (c check) write(id uint64, p string, n int, want api.Errno) {
	c.t.Helper()
	c.answer(want, func() api.Errno {
		got, e := c.m.Write(id, []byte(p))
		if got != n {
			c.t.Errorf("Write(%d, %d bytes): %d, want %d", id, len(p), got, n)
		}
		return e
	}, "Write", id, len(p))
}

// fill writes as many bytes, which must be accepted.
func (c check) fill(id uint64, n int) {
	c.t.Helper()
	c.write(id, strings.Repeat("x", n), n, api.OK)
}

func (c check) readAll(id uint64, n int, text string, last bool, want api.Errno) {
	c.t.Helper()
	c.answer(want, func() api.Errno {
		b, ended, e := c.m.Read(id, n)
		if string(b) != text || ended != last {
			c.t.Errorf("Read(%d, %d): %q, %v, want %q, %v", id, n, b, ended, text, last)
		}
		return e
	}, "Read", id, n)
}

// read awaits bytes, and no end.
func (c check) read(id uint64, n int, text string) {
	c.t.Helper()
	c.readAll(id, n, text, false, api.OK)
}

// ends awaits that the end is told.
func (c check) ends(id uint64, n int) {
	c.t.Helper()
	c.readAll(id, n, "", true, api.OK)
}

// unread awaits an error of Read.
func (c check) unread(id uint64, want api.Errno) {
	c.t.Helper()
	c.readAll(id, 5, "", false, want)
}

func (c check) close(id uint64, want api.Errno) {
	c.t.Helper()
	c.answer(want, func() api.Errno { return c.m.Close(id) }, "Close", id)
}

func (c check) reset(id, code uint64, want api.Errno) {
	c.t.Helper()
	c.answer(want, func() api.Errno { return c.m.Reset(id, code) }, "Reset", id, code)
}

func (c check) stop(id, code uint64, want api.Errno) {
	c.t.Helper()
	c.answer(want, func() api.Errno { return c.m.Stop(id, code) }, "Stop", id, code)
}

func (c check) ping(n uint64, want api.Errno) {
	c.t.Helper()
	c.answer(want, func() api.Errno { return c.m.Ping(n) }, "Ping", n)
}

func (c check) away(code uint64, want api.Errno) {
	c.t.Helper()
	c.answer(want, func() api.Errno { return c.m.Away(code) }, "Away", code)
}

func (c check) pongs(want ...uint64) {
	c.t.Helper()
	if got := c.m.Pongs(); !slices.Equal(got, want) {
		c.t.Errorf("Pongs: %d, want %d", got, want)
	}
}

// hears feeds frames that break no rule.
func (c check) hears(l ...api.MuxFrame) {
	c.t.Helper()
	if e := c.m.Feed(wire(c.t, l...)); e != api.OK || c.m.Stat().Broken != api.OK {
		c.t.Errorf("Feed of %v: %d, broken %d", l, e, c.m.Stat().Broken)
	}
}

// breaks feeds frames of which the last one breaks that rule.
func (c check) breaks(rule api.Errno, l ...api.MuxFrame) {
	c.t.Helper()
	c.breaksBytes(rule, wire(c.t, l...))
}

func (c check) breaksBytes(rule api.Errno, b []byte) {
	c.t.Helper()
	if e := c.m.Feed(b); e != brokenErr || c.m.Stat().Broken != rule {
		c.t.Errorf("Feed of %x: %d, broken %d, want %d", b[:min(len(b), 40)], e, c.m.Stat().Broken, rule)
	}
	if x := c.m.Out(1000); len(x) != 0 || c.m.Stat().Out != 0 {
		c.t.Errorf("broken, and yet %x goes out", x)
	}
}

// out awaits these frames, and no more.
func (c check) out(want ...api.MuxFrame) {
	c.t.Helper()
	if got := frames(c.t, c.m.Out(1<<30)); !slices.EqualFunc(got, want, sameFrame) {
		c.t.Errorf("Out: %v, want %v", got, want)
	}
}

// skip takes all that goes out, whatever it is.
func (c check) skip() { c.m.Out(1 << 40) }

// to feeds what the one gives to the other: the frames.
func (c check) to(d check) []api.MuxFrame {
	c.t.Helper()
	b := c.m.Out(1 << 30)
	if e := d.m.Feed(b); e != api.OK {
		c.t.Errorf("Feed of %v: %d", frames(c.t, b), e)
	}
	return frames(c.t, b)
}

// stat holds the side without its streams against this.
func (c check) stat(want api.MuxStat) {
	c.t.Helper()
	got := c.m.Stat()
	got.Streams, want.Streams = nil, nil
	if !sameStat(got, want) {
		c.t.Errorf("Stat: %+v, want %+v", got, want)
	}
}

// views holds the streams that are there against these.
func (c check) views(want ...api.MuxView) {
	c.t.Helper()
	if got := c.m.Stat().Streams; !slices.Equal(got, want) {
		c.t.Errorf("Stat's Streams: %+v, want %+v", got, want)
	}
}

// there awaits that just these streams are there.
func (c check) there(want ...uint64) {
	c.t.Helper()
	var got []uint64
	for _, v := range c.m.Stat().Streams {
		got = append(got, v.Stream)
	}
	if !slices.Equal(got, want) {
		c.t.Errorf("there are %d, want %d", got, want)
	}
}

func (c check) view(id uint64) api.MuxView {
	c.t.Helper()
	for _, v := range c.m.Stat().Streams {
		if v.Stream == id {
			return v
		}
	}
	c.t.Errorf("%d is not there", id)
	return api.MuxView{}
}

// halves awaits the states of a stream's halves.
func (c check) halves(id uint64, sending, getting int) {
	c.t.Helper()
	if v := c.view(id); v.Sending != sending || v.Getting != getting {
		c.t.Errorf("halves of %d: %d, %d, want %d, %d", id, v.Sending, v.Getting, sending, getting)
	}
}

// holds awaits how many bytes of a stream wait to go out, and to be read.
func (c check) holds(id uint64, waiting, ready int) {
	c.t.Helper()
	if v := c.view(id); v.Waiting != waiting || v.Ready != ready {
		c.t.Errorf("of %d wait %d, %d can be read, want %d, %d", id, v.Waiting, v.Ready, waiting, ready)
	}
}

// code awaits what Stat tells as a stream's Code.
func (c check) code(id, want uint64) {
	c.t.Helper()
	if v := c.view(id); v.Code != want {
		c.t.Errorf("Code of %d: %d, want %d", id, v.Code, want)
	}
}
