package transfer_test

import (
	"bytes"
	"fmt"
	"strings"
	"testing"

	"braid/api"
)

// P23.3: names, classes and shares that may not be; the first error that the table names.
func TestFetchErrors(t *testing.T) {
	c := begin(t, 0, small(), nil)
	c.fetch("x", 0, 1, 1, api.OK)
	for _, name := range []string{"", ".", "..", "a/b", "/", "a\x00", "\x1fa", "a\x7f", strings.Repeat("n", api.MaxName+1)} {
		c.fetch(name, 0, 1, 0, nameErr)
		c.fetch(name, 8, 1, 0, nameErr)
	}
	for _, name := range []string{"x", "y"} {
		for _, class := range []int{-1, -1 << 63, api.MaxClass + 1, 1<<63 - 1} {
			c.fetch(name, class, 1, 0, classErr)
		}
		for _, share := range []int{0, -1, -1 << 63, api.MaxShare + 1, 1<<63 - 1} {
			c.fetch(name, 0, share, 0, classErr)
		}
	}
	c.fetch("x", 0, 1, 0, sameErr)
	c.fetch("y", 0, 1, 2, api.OK)
}

// P23.3: what may be asked for; class and share are those of the stream.
func TestFetches(t *testing.T) {
	p := facing(t, wide(), nil)
	for i, name := range []string{"...", strings.Repeat("n", api.MaxName), "a\x80", " "} {
		p.fetch(name, 0, 1, i+1, api.OK)
		p.asked(uint64(2*i+1), requestM(name))
	}
	for i, x := range [][2]int{{0, api.MaxShare}, {api.MaxClass, 1}, {3, 4}} {
		p.fetch(fmt.Sprint(i), x[0], x[1], i+5, api.OK)
		id := uint64(2*i + 9)
		p.asked(id, requestM(fmt.Sprint(i)))
		if v := p.half(id); v.Class != x[0] || v.Share != x[1] {
			t.Errorf("%+v", v)
		}
	}
}

// P23.3: as many as may be, in whatever state they are; the errors ahead of that one.
func TestFetchMany(t *testing.T) {
	p := facing(t, wide(), nil)
	for i := range api.MaxFetches {
		p.fetch(fmt.Sprint("n", i), 0, 1, i+1, api.OK)
	}
	p.cancel(7, api.OK)
	p.fetch("n6", 0, 1, 0, sameErr)
	p.fetch("x", 0, 1, 0, fetchesErr)
	p.fetch("x", 0, 0, 0, classErr)
	p.fetch("/", 0, 1, 0, nameErr)
	if l := p.x.Stat().Fetches; len(l) != api.MaxFetches || l[63].Name != "n63" {
		t.Errorf("%v", l)
	}
	p.again(7, api.OK)
	p.fetch("x", 0, 1, 0, fetchesErr)
}

// reach makes a fetch of "x" that is in a state, with the first of its two pieces there, if its manifest is known; the answer is its stream, and whether the manifest is known.
func reach(t *testing.T, c api.TransferConfig, state int, known bool) (peer, uint64) {
	t.Helper()
	x := fileOf("x", "abcd", 2)
	p := facing(t, c, nil)
	p.fetch("x", 2, 5, 1, api.OK)
	p.asked(1, requestM("x"))
	id := uint64(1)
	if known {
		p.answers(1, x.answer())
		p.asked(3, x.ask(0, 2))
		p.write(3, x.parts(0))
		id = 3
	}
	switch state {
	case done:
		p.answers(id, x.part(1))
	case missing:
		if known {
			p.answers(3, "")
			p.again(1, api.OK)
			p.asked(5, x.ask(1, 2))
			id = 5
		}
		p.answers(id, "N")
	case changed:
		p.answers(3, "")
		p.again(1, api.OK)
		p.asked(5, x.ask(1, 2))
		p.answers(5, "C")
		id = 5
	case failed:
		p.answers(id, "")
	case cancelled:
		p.cancel(1, api.OK)
		p.pass()
	default:
		return p, id
	}
	return p, 0
}

// haves is how many pieces are there in what reach makes.
func haves(state int, known bool) int {
	switch {
	case state == done:
		return 2
	case known:
		return 1
	}
	return 0
}

type stand struct {
	state int
	known bool
}

// stands is each state that a fetch may have, with what is known.
func stands() []stand {
	return []stand{{asking, false}, {getting, true}, {done, true}, {missing, false}, {missing, true}, {changed, true}, {failed, false}, {failed, true}, {cancelled, false}, {cancelled, true}}
}

// P23.3 to P23.5: each call in each state.
func TestCallsInEachState(t *testing.T) {
	x := fileOf("x", "abcd", 2)
	for _, s := range stands() {
		p, id := reach(t, wide(), s.state, s.known)
		asked := p.view(1).Asked
		p.stands(1, s.state, haves(s.state, s.known), asked, id)
		want := api.Manifest{}
		if s.known {
			want = x.manifest()
		}
		if v := p.view(1); v.Manifest != want || v.Name != "x" {
			t.Errorf("state %d: %+v", s.state, v)
		}
		p.fetch("x", 0, 1, 0, sameErr)
		p.fetch("x", 9, 1, 0, classErr)
		for _, n := range []int{-1 << 63, -1, 0, 2, 1<<63 - 1} {
			p.cancel(n, noFetchErr)
			p.again(n, noFetchErr)
			p.data(n, "", noFetchErr)
		}
		if s.state == done {
			p.data(1, "abcd", api.OK)
		} else {
			p.data(1, "", stateErr)
		}
		p.quiet()

		switch s.state {
		case asking, getting:
			p.again(1, stateErr)
			p.cancel(1, api.OK)
			p.stands(1, cancelled, haves(s.state, s.known), asked, 0)
			// Its own half had ended with the request.
			if b := p.x.Out(1000); !bytes.Equal(b, []byte{api.MuxStop, byte(id), 1}) {
				t.Errorf("%x goes out", b)
			}
			p.quiet()
		case done:
			p.again(1, stateErr)
			p.cancel(1, stateErr)
		default:
			p.cancel(1, stateErr)
			p.again(1, api.OK)
			next := p.view(1).Stream
			switch {
			case s.state == changed || !s.known:
				p.stands(1, asking, 0, asked+1, next)
				p.asked(next, requestM("x"))
				p.answers(next, x.answer())
				p.asked(next+2, x.ask(0, 2))
				p.answers(next+2, x.parts(0, 1))
			default:
				p.stands(1, getting, 1, asked+1, next)
				p.asked(next, x.ask(1, 2))
				p.answers(next, x.parts(1))
			}
			p.data(1, "abcd", api.OK)
		}
		if t.Failed() {
			t.Fatalf("state %d, known: %v", s.state, s.known)
		}
	}
}

// P23.4: a fetch that has no stream is cancelled without one being dropped; and one whose request has not gone out gives its half up too.
func TestCancelStreams(t *testing.T) {
	c := small()
	c.Mux.Own.Streams, c.Mux.Peer.Streams = 1, 1
	p := facing(t, c, nil)
	p.fetch("x", 0, 1, 1, api.OK)
	p.fetch("y", 0, 1, 2, api.OK)
	p.stands(1, asking, 0, 1, 1)
	p.stands(2, asking, 0, 0, 0)
	p.cancel(2, api.OK)
	p.stands(2, cancelled, 0, 0, 0)
	p.cancel(1, api.OK)
	p.stands(1, cancelled, 0, 1, 0)
	p.again(2, api.OK)
	p.stands(2, asking, 0, 0, 0)
	// OPEN, then what drops it: nothing of the request.
	if b := p.x.Out(1000); string(b) != "\x01\x01\x00\x01\x06\x01\x01\x05\x01\x01" {
		t.Errorf("%x", b)
	}
	p.fetch("z", 0, 1, 3, api.OK)
	p.stands(3, asking, 0, 0, 0)
}

// P23.4: with a stream that is free behind a Cancel the next fetch goes on in the same work, and so does Again.
func TestCancelWorks(t *testing.T) {
	c := wide()
	c.Mux.Own.Streams, c.Mux.Peer.Streams = 1, 1
	p := facing(t, c, nil)
	p.fetch("x", 0, 1, 1, api.OK)
	p.fetch("y", 0, 1, 2, api.OK)
	p.asked(1, requestM("x"))
	p.m.Reset(1, 7)
	// The stream is over as soon as the work reads that it was given up.
	p.x.Feed(p.m.Out(1000))
	p.stands(1, failed, 0, 1, 0)
	p.stands(2, asking, 0, 1, 3)
	p.asked(3, requestM("y"))
	p.again(1, api.OK)
	p.stands(1, asking, 0, 1, 0)
	p.m.Write(3, []byte("N"))
	p.m.Close(3)
	p.x.Feed(p.m.Out(1000))
	p.stands(2, missing, 0, 1, 0)
	p.stands(1, asking, 0, 2, 5)
	p.again(2, api.OK)
	p.stands(2, asking, 0, 1, 0)
}

// P23.3: a name that is known whole is done at once, one that is known in part goes on, and one that is not known begins.
func TestFetchKnown(t *testing.T) {
	whole, part, bare, empty := fileOf("whole", "abcd", 2), fileOf("part", "abcde", 2), fileOf("bare", "ab", 1), fileOf("empty", "", 1)
	log := logOf(t, kind(1, recordM(whole)), kind(1, recordM(part)), kind(1, recordM(bare)), kind(1, recordM(empty)),
		kind(2, recordP(whole, 0)), kind(2, recordP(part, 1)), kind(2, recordP(whole, 1)))
	p := facing(t, wide(), log)
	if l := p.x.Stat().Fetches; len(l) != 0 {
		t.Errorf("%v", l)
	}
	p.fetch("whole", 0, 1, 1, api.OK)
	p.fetch("empty", 0, 1, 2, api.OK)
	p.stands(1, done, 2, 0, 0)
	p.stands(2, done, 0, 0, 0)
	p.data(1, "abcd", api.OK)
	p.data(2, "", api.OK)
	p.quiet()
	p.fetch("part", 0, 1, 3, api.OK)
	p.stands(3, getting, 1, 1, 1)
	p.asked(1, part.ask(0, 1, 2, 3))
	p.fetch("bare", 0, 1, 4, api.OK)
	p.stands(4, getting, 0, 1, 3)
	p.asked(3, bare.ask(0, 2))
	p.fetch("none", 0, 1, 5, api.OK)
	p.stands(5, asking, 0, 1, 5)
	p.asked(5, requestM("none"))
	p.answers(1, part.parts(0, 2))
	p.data(3, "abcde", api.OK)
	for i, f := range []file{whole, empty, part, bare} {
		if v := p.view(i + 1); v.Manifest != f.manifest() || v.Name != f.name {
			t.Errorf("%+v", v)
		}
	}
	if v := p.view(5); v.Manifest != (api.Manifest{}) {
		t.Errorf("%+v", v)
	}
}

// P23.5: Sync is the log's.
func TestSync(t *testing.T) {
	begin(t, 0, small(), nil).sync(api.OK)
	log, disk := newLog(t, 100)
	c := begin(t, 0, small(), log)
	log.Append(9, []byte("ab"))
	c.sync(api.OK)
	if disk.Pending() != 0 {
		t.Error("it is not synced")
	}
	log.Append(9, []byte("ab"))
	disk.Crash(0, 0)
	c.sync(deadErr)
}
