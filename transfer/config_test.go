package transfer_test

import (
	"reflect"
	"testing"

	"braid/api"
	"braid/journal"
	"braid/mux"
	"braid/transfer"
)

// P23.1: each number of a configuration at its least and its greatest, and one beyond.
func TestConfigs(t *testing.T) {
	for _, x := range []struct {
		what string
		set  func(c *api.TransferConfig, n uint64)
		low  uint64
		high uint64
	}{
		{"Hold", func(c *api.TransferConfig, n uint64) { c.Mux.Hold = int(n) }, api.MinHold, api.MaxHold},
		{"Batch", func(c *api.TransferConfig, n uint64) { c.Batch = int(n) }, 1, api.MaxBatch},
		{"Quantum", func(c *api.TransferConfig, n uint64) { c.Mux.Quantum = int(n) }, 1, api.MaxQuantum},
		{"Own.All", func(c *api.TransferConfig, n uint64) { c.Mux.Own.All = n }, 1, api.MaxRoom},
		{"Own.Each", func(c *api.TransferConfig, n uint64) { c.Mux.Own.Each = n }, 1, api.MaxRoom},
		{"Peer.All", func(c *api.TransferConfig, n uint64) { c.Mux.Peer.All = n }, 1, api.MaxRoom},
		{"Peer.Each", func(c *api.TransferConfig, n uint64) { c.Mux.Peer.Each = n }, 1, api.MaxRoom},
		// Their sum is bounded by what a mux's turns may have.
		{"Own.Streams", func(c *api.TransferConfig, n uint64) { c.Mux.Own.Streams = int(n) }, 1, api.MaxFair - 2},
		{"Peer.Streams", func(c *api.TransferConfig, n uint64) { c.Mux.Peer.Streams = int(n) }, 1, api.MaxFair - 2},
	} {
		for _, n := range []uint64{x.low - 1, x.low, x.low + 1, x.high - 1, x.high, x.high + 1, 1 << 62, 1 << 63, ^uint64(0)} {
			c := small()
			x.set(&c, n)
			got, e := transfer.New(0, c, nil)
			if _, muxErr := mux.New(0, c.Mux); muxErr != api.OK && e == api.OK {
				t.Errorf("%s %d: no mux takes it", x.what, n)
			}
			if want := x.low <= n && n <= x.high; (e == api.OK) != want || (got != nil) != want || e != api.OK && e != configErr {
				t.Errorf("%s %d: %v, %d", x.what, n, got != nil, e)
			}
		}
	}
}

// P23.1: a side is its lowest bit, and begins with nothing.
func TestBegins(t *testing.T) {
	for _, side := range []int{0, 1, 2, 3, -1, -2, 1 << 62, -1 << 63} {
		c := begin(t, side, small(), nil)
		if got := c.x.Stat(); !reflect.DeepEqual(got, api.TransferStat{}) {
			t.Errorf("side %d: %+v", side, got)
		}
		if b := c.x.Out(1000); len(b) > 0 {
			t.Errorf("side %d: %x goes out", side, b)
		}
		c.fetch("x", 0, 1, 1, api.OK)
		c.stands(1, asking, 0, 1, uint64(1+side&1))
	}
}

// A Transfer that New did not give has an answer for each call.
func TestNotGiven(t *testing.T) {
	for _, x := range []*transfer.Transfer{nil, {}} {
		for what, e := range map[string]api.Errno{
			"Offer":           x.Offer("x", []byte("a"), 1),
			"Offer of none":   x.Offer("", nil, 0),
			"Withdraw":        x.Withdraw("x"),
			"Cancel":          x.Cancel(1),
			"Cancel of none":  x.Cancel(0),
			"Again":           x.Again(1),
			"Sync":            x.Sync(),
			"Feed":            x.Feed([]byte{0}),
			"Feed of nothing": x.Feed(nil),
		} {
			if e != configErr {
				t.Errorf("%s: %d", what, e)
			}
		}
		for _, name := range []string{"x", ""} {
			if n, e := x.Fetch(name, 0, 1); n != 0 || e != configErr {
				t.Errorf("Fetch: %d, %d", n, e)
			}
		}
		for _, n := range []int{-1, 0, 1} {
			if b, e := x.Data(n); b != nil || e != configErr {
				t.Errorf("Data: %q, %d", b, e)
			}
		}
		for _, most := range []int{-1, 0, 1, 1000} {
			if b := x.Out(most); len(b) > 0 {
				t.Errorf("Out: %x", b)
			}
		}
		if v := x.Stat(); !reflect.DeepEqual(v, api.TransferStat{}) {
			t.Errorf("Stat: %+v", v)
		}
	}
}

// A configuration that may not be is told ahead of whatever the log is, and the log stays as it was.
func TestConfigWithLog(t *testing.T) {
	l := logOf(t, kind(1, recordM(fileOf("x", "abc", 1))))
	c := small()
	c.Batch = 0
	for _, log := range []*journal.Log{nil, l, {}} {
		if x, e := transfer.New(0, c, log); x != nil || e != configErr {
			t.Errorf("%v, %d", x != nil, e)
		}
	}
	recorded(t, l, kind(1, recordM(fileOf("x", "abc", 1))))
}

// P23.2 to P23.6: what the calls of a broken one answer.
func TestBroken(t *testing.T) {
	log, disk := newLog(t, 1000)
	p := facing(t, small(), log)
	x := fileOf("x", "abcdefg", 9)
	p.offer("y", "here", 2, api.OK)
	p.fetch("x", 0, 1, 1, api.OK)
	p.asked(1, requestM("x"))
	p.answers(1, x.answer())
	p.asked(3, x.ask(0, 1))
	p.answers(3, x.parts(0))
	p.fetch("z", 0, 1, 2, api.OK)
	p.asked(5, requestM("z"))
	p.m.Write(p.open(), []byte("M"))
	p.pass()
	before := p.x.Stat()
	if disk.Pending() == 0 {
		t.Error("nothing is pending")
	}

	p.breaks()
	after := p.x.Stat()
	if after.Mux.Broken != api.ErrMuxKind {
		t.Errorf("broken: %d", after.Mux.Broken)
	}
	after.Mux = before.Mux
	if !reflect.DeepEqual(before, after) {
		t.Errorf("%+v became %+v", before, after)
	}
	p.stands(2, asking, 0, 1, 5)
	p.serves(1)
	p.offer("a", "", 1, brokenErr)
	p.offer("", "", 1, brokenErr)
	p.offer("y", "", 0, brokenErr)
	p.withdraw("y", brokenErr)
	p.withdraw("q", brokenErr)
	p.fetch("a", 0, 1, 0, brokenErr)
	p.fetch("", 0, 1, 0, brokenErr)
	p.fetch("a", 8, 1, 0, brokenErr)
	p.fetch("x", 0, 1, 0, brokenErr)
	for _, n := range []int{-1, 0, 1, 2, 3} {
		p.cancel(n, brokenErr)
		p.again(n, brokenErr)
	}
	p.data(0, "", noFetchErr)
	p.data(1, "abcdefg", api.OK)
	p.data(2, "", stateErr)
	p.data(3, "", noFetchErr)
	for range 2 {
		p.feed(nil, brokenErr)
		p.feed([]byte{7, 1}, brokenErr)
		if b := p.x.Out(1000); len(b) > 0 {
			t.Errorf("%x goes out", b)
		}
	}
	p.sync(api.OK)
	if disk.Pending() != 0 {
		t.Error("Sync of a broken one does nothing")
	}
	disk.Crash(0, 0)
	p.sync(deadErr)
	begin(t, 0, small(), nil).sync(api.OK)
}

// P23.6: what came ahead of the frame that breaks the mux was heard, but nothing is worked.
func TestNoWorkWhenBroken(t *testing.T) {
	p := facing(t, wide(), nil)
	p.fetch("x", 0, 1, 1, api.OK)
	p.asked(1, requestM("x"))
	p.m.Write(1, []byte("N"))
	p.m.Close(1)
	p.m.Write(p.open(), []byte("Mx"))
	p.feed(append(p.m.Out(1000), 0), brokenErr)
	p.stands(1, asking, 0, 1, 1)
	p.serves(0)
	v := p.x.Stat().Mux
	if len(v.Streams) != 2 || v.Streams[0].Ready != 1 || v.Streams[1].Ready != 2 {
		t.Errorf("%+v", v)
	}
}
