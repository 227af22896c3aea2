package transfer_test

import (
	"bytes"
	"fmt"
	"strings"
	"testing"

	"braid/api"
)

// offering is a peer of a Transfer that offers files.
func offering(t *testing.T, c api.TransferConfig, files ...file) peer {
	t.Helper()
	p := facing(t, c, nil)
	for _, f := range files {
		p.offer(f.name, f.data, f.piece, api.OK)
	}
	return p
}

// P23.8: each kind of answer to each kind of request.
func TestAnswers(t *testing.T) {
	long := strings.Repeat("n", api.MaxName)
	x, one, empty, far := fileOf("x", "abcdefg", 3), fileOf("one", "a", 65536), fileOf("empty", "", 2), fileOf(long, letters(1000), 5)
	p := offering(t, wide(), x, one, empty, far)
	other := fileOf("x", "abcdefh", 3)
	for _, q := range []struct{ ask, want string }{
		{requestM("x"), x.answer()},
		{requestM("one"), one.answer()},
		{requestM("empty"), empty.answer()},
		{requestM(long), far.answer()},
		{requestM("y"), "N"},
		{requestM("X"), "N"},
		{requestM("x\x00"), "N"},
		{requestM(""), "N"},
		{requestM("a/b"), "N"},
		{requestM("\x00\xff"), "N"},
		{x.ask(0, 1), x.parts(0)},
		{x.ask(0, 3), x.parts(0, 1, 2)},
		{x.ask(1, 3), x.parts(1, 2)},
		{x.ask(2, 3), x.parts(2)},
		{x.ask(0, 1, 2, 3), x.parts(0, 2)},
		{one.ask(0, 1), one.parts(0)},
		{far.ask(199, 200), far.parts(199)},
		{far.ask(3, 5, 7, 8, 100, 103), far.parts(3, 4, 7, 100, 101, 102)},
		{requestP("x", other.root(), 0, 1), "C"},
		{requestP("x", api.Sum{}, 0, 1), "C"},
		{requestP("empty", x.root(), 0, 1), "C"},
		{requestP("x", other.root(), 0, 4), "C"},
		{requestP("x", other.root(), 1<<32-2, 1<<32-1), "C"},
		{requestP("y", x.root(), 0, 1), "N"},
		{requestP("y", x.root(), 1<<32-2, 1<<32-1), "N"},
		{requestP("", x.root(), 0, 1), "N"},
		{requestP("a/b", x.root(), 0, 1), "N"},
	} {
		p.told(p.ask(q.ask), q.want)
		p.serves(0)
		if t.Failed() {
			t.Fatalf("%.60q", q.ask)
		}
	}
}

// ill is requests that are ill-formed, and are told to be when their end has come.
func ill(x file) map[string]string {
	r := x.root()
	l := map[string]string{
		"nothing":                  "",
		"bytes behind M":           requestM("x") + "y",
		"bytes behind P":           x.ask(0, 1) + "y",
		"another M behind it":      requestM("x") + requestM("x"),
		"a name that is too long":  "M\x02x",
		"a name that is too short": "M\x00x",
		"no stretch":               requestP("x", r),
		"no stretch, one there":    strings.Replace(x.ask(0, 1), two(1), two(0), 1),
		"two stretches, one there": strings.Replace(x.ask(0, 1), two(1), two(2), 1),
		"one stretch, two there":   strings.Replace(x.ask(0, 1, 2, 3), two(2), two(1), 1),
		"an empty stretch":         x.ask(1, 1),
		"an empty one at 0":        x.ask(0, 0),
		"an empty second one":      x.ask(0, 1, 2, 2),
		"a stretch that falls":     x.ask(2, 1),
		"stretches that touch":     x.ask(0, 1, 1, 2),
		"that overlap":             x.ask(0, 2, 1, 3),
		"that fall":                x.ask(2, 3, 0, 1),
		"one twice":                x.ask(0, 1, 0, 1),
		"beyond the pieces":        x.ask(0, 4),
		"that begins beyond them":  x.ask(3, 4),
		"a second one beyond them": x.ask(0, 1, 2, 4),
		"far beyond them":          x.ask(0, 1<<32-1),
		"a P of no name, no root":  "P\x00",
		"a 65th of no name":        requestP("y", r, asks(65)...),
		"touching, of no name":     requestP("y", r, 0, 1, 1, 2),
		"none, of no name":         requestP("y", r),
		"touching, of another":     requestP("x", api.Sum{}, 0, 1, 1, 2),
		"none, of another":         requestP("x", api.Sum{}),
	}
	for _, first := range []byte{0, 'm', 'p', 'N', 'Y', 'C', 'L', 'O', 'Q', 0xff} {
		l[fmt.Sprint("kind M as ", first)] = string([]byte{first}) + requestM("x")[1:]
		l[fmt.Sprint("kind P as ", first)] = string([]byte{first}) + x.ask(0, 1)[1:]
	}
	return l
}

// asks is so many stretches of one piece.
func asks(n int) []int {
	var l []int
	for i := range n {
		l = append(l, 2*i, 2*i+1)
	}
	return l
}

// P23.8: what is ill-formed is dropped when its end has come, and no sooner.
func TestIllFormed(t *testing.T) {
	x := fileOf("x", "abcdefg", 3)
	empty := fileOf("empty", "", 1)
	p := offering(t, wide(), x, empty)
	requests := ill(x)
	requests["a piece of a file without"] = empty.ask(0, 1)
	for what, s := range requests {
		id := p.open()
		p.write(id, s)
		p.serves(1)
		if v := p.half(id); v.Getting != api.HalfOpen || v.Code != 0 || v.Sending != api.HalfOpen {
			t.Errorf("%s: %+v", what, v)
		}
		p.m.Close(id)
		p.x.Feed(p.m.Out(1000))
		p.serves(0)
		// Its getting half had ended, so nothing is to be stopped.
		if b := p.x.Out(1000); !bytes.Equal(b, []byte{api.MuxReset, byte(id), 1}) && id < 64 {
			t.Errorf("%s: %x goes out", what, b)
		} else if e := p.m.Feed(b); e != api.OK {
			t.Fatal(e)
		}
		p.dropped(id)
	}
}

// P23.8: a request that ends ahead of its end, at each place.
func TestRequestsCut(t *testing.T) {
	x := fileOf("x", "abcdefg", 3)
	p := offering(t, wide(), x)
	for _, s := range []string{requestM("x"), requestM("y"), x.ask(0, 1, 2, 3), requestP("y", x.root(), 0, 1)} {
		for n := range len(s) {
			id := p.ask(s[:n])
			p.dropped(id)
			p.serves(0)
		}
	}
}

// P23.8: requests in any pieces; nothing goes out ahead of the end.
func TestRequestsInPieces(t *testing.T) {
	x := fileOf("x", "abcdefg", 3)
	p := offering(t, wide(), x)
	for s, want := range map[string]string{
		requestM("x"):                    x.answer(),
		requestM("y"):                    "N",
		x.ask(0, 1, 2, 3):                x.parts(0, 2),
		requestP("x", api.Sum{}, 0, 1):   "C",
		requestP("none", x.root(), 0, 1): "N",
	} {
		id := p.open()
		for i := range len(s) {
			p.write(id, s[i:i+1])
			p.serves(1)
			if v := p.half(id); v.Ready != 0 || v.Getting != api.HalfOpen {
				t.Errorf("behind %d bytes of %q: %+v", i+1, s, v)
			}
		}
		p.ends(id)
		p.told(id, want)
		p.serves(0)
		for i := range len(s) {
			id := p.open()
			p.write(id, s[:i])
			p.answers(id, s[i:])
			p.told(id, want)
		}
	}
}

// P23.8: the longest request that there is, and one byte more, by which a stream is dropped at once.
func TestMaxRequest(t *testing.T) {
	long := strings.Repeat("n", api.MaxName)
	x := fileOf(long, letters(127), 1)
	p := offering(t, wide(), x)
	s := x.ask(asks(api.MaxAsk)...)
	if len(s) != api.MaxRequest {
		t.Fatalf("%d bytes", len(s))
	}
	want := "Y"
	for i := range api.MaxAsk {
		want += x.part(2 * i)
	}
	p.told(p.ask(s), want)
	p.dropped(p.ask(x.ask(asks(65)...)))

	for _, at := range []int{0, 1, 802, 803} {
		id := p.open()
		p.write(id, s[:at])
		p.write(id, s[at:])
		p.serves(1)
		p.write(id, "?")
		p.serves(0)
		p.dropped(id)
		if _, e := p.m.Write(id, nil); e != api.ErrMuxStopped {
			t.Errorf("it goes on to be read: %d", e)
		}
	}
	// What is too long is dropped though it be read with its end in one work, and whatever it is.
	for _, s := range []string{s + "?", s + s, strings.Repeat("M", 804), strings.Repeat("?", 5000)} {
		id := p.ask(s)
		p.serves(0)
		p.dropped(id)
	}
	id := p.open()
	p.m.Write(id, []byte(s+"?"))
	p.x.Feed(p.m.Out(10000))
	// RESET, and then STOP, behind what tells of the room.
	if b := p.x.Out(1000); !bytes.HasSuffix(b, []byte{api.MuxReset, byte(id), 1, api.MuxStop, byte(id), 1}) {
		t.Errorf("%x goes out for stream %d", b, id)
	}
}

// P23.8: a stream that the peer gives up, or does not want, ahead of its request's end.
func TestRequestGivenUp(t *testing.T) {
	x := fileOf("x", "abcdefg", 3)
	for n := range len(requestM("x")) + 1 {
		p := offering(t, wide(), x)
		id := p.open()
		p.write(id, requestM("x")[:n])
		p.m.Reset(id, 9)
		p.x.Feed(p.m.Out(1000))
		p.serves(0)
		// Nothing comes any more, so nothing is to be stopped.
		if b := p.x.Out(1000); !bytes.Equal(b, []byte{api.MuxReset, byte(id), 1}) {
			t.Errorf("%x goes out", b)
		}

		p = offering(t, wide(), x)
		id = p.open()
		p.write(id, requestM("x")[:n])
		p.m.Stop(id, 9)
		p.pass()
		// Nobody has written yet, so it goes on to be heard.
		p.serves(1)
		p.answers(id, requestM("x")[n:])
		p.serves(0)
		if v := p.half(id); v.Stream != 0 {
			t.Errorf("%+v", v)
		}
		if v := p.x.Stat().Mux.Streams; len(v) != 0 {
			t.Errorf("%+v", v)
		}
	}
}

// P23.8: of an answer that is not wanted any more the stream is dropped; what is accepted at once is not.
func TestAnswerNotWanted(t *testing.T) {
	c := small()
	x := fileOf("x", letters(5000), 1000)
	p := offering(t, c, x)
	id := p.ask(x.ask(0, 5))
	p.serves(1)
	p.m.Stop(id, 9)
	p.pass()
	p.serves(0)
	if v := p.x.Stat().Mux.Streams; len(v) != 0 {
		t.Errorf("%+v", v)
	}
	// All of this one is accepted: nobody asks the stream any more.
	id = p.ask(requestM("x"))
	p.serves(0)
	p.m.Stop(id, 9)
	p.pass()
	p.told(p.ask(requestM("y")), "N")
}

// P23.8: an answer goes out as there is room, for it is served till all of it is accepted.
func TestAnswerBitByBit(t *testing.T) {
	x := fileOf("x", letters(3000), 700)
	for _, each := range []uint64{1, 7, 50, 1000} {
		p := offering(t, config(rooms(2000, each, 2), api.MinHold, 1), x)
		for _, q := range []struct{ ask, want string }{
			{x.ask(0, 5), x.parts(0, 1, 2, 3, 4)},
			{x.ask(0, 1, 4, 5), x.parts(0, 4)},
			{requestM("x"), x.answer()},
		} {
			id := p.open()
			p.answers(id, q.ask)
			var got []byte
			for range 10000 {
				b, ended, e := p.m.Read(id, 3)
				got = append(got, b...)
				if ended || e != api.OK {
					break
				}
				p.pass()
			}
			if string(got) != q.want {
				t.Fatalf("room %d: %d bytes, want %d", each, len(got), len(q.want))
			}
			p.serves(0)
		}
	}
}

// P23.8: as much is accepted as the mux holds, and the rest, part by part, as soon as there is room.
func TestHold(t *testing.T) {
	x := fileOf("x", letters(3000), 700)
	c := config(rooms(1<<20, 1<<20, 9), api.MinHold, 1)
	c.Mux.Peer = rooms(1<<20, 10, 9)
	p := offering(t, c, x)
	id := p.ask(x.ask(0, 5))
	whole := x.parts(0, 1, 2, 3, 4)
	waits := func() (int, int) { return p.x.Stat().Mux.Streams[0].Waiting, p.x.Stat().Serving }
	if n, s := waits(); n != api.MinHold || s != 1 {
		t.Errorf("%d bytes wait, %d streams are served", n, s)
	}
	got, _, _ := p.m.Read(id, 10)
	p.x.Feed(p.m.Out(1000))
	// Room for ten bytes more has come, but they have not gone out yet.
	if n, s := waits(); n != api.MinHold || s != 1 {
		t.Errorf("%d bytes wait, %d streams are served", n, s)
	}
	p.m.Feed(p.x.Out(1000))
	if n, _ := waits(); n != api.MinHold-10 {
		t.Errorf("%d bytes wait", n)
	}
	p.x.Out(0)
	if n, _ := waits(); n != api.MinHold {
		t.Errorf("%d bytes wait", n)
	}
	for len(got) < len(whole) {
		b, _, _ := p.m.Read(id, 10)
		got = append(got, b...)
		p.pass()
	}
	p.told(id, "")
	if string(got) != whole {
		t.Errorf("%d bytes", len(got))
	}
}

// P23.8: many streams are served beside one another.
func TestServeMany(t *testing.T) {
	x := fileOf("x", letters(900), 9)
	p := offering(t, wide(), x)
	var ids []uint64
	for range 30 {
		ids = append(ids, p.open())
	}
	for i, id := range ids {
		p.m.Write(id, []byte(x.ask(i, i+2))[:i])
	}
	p.pass()
	p.serves(30)
	for i := len(ids) - 1; i >= 0; i-- {
		p.answers(ids[i], x.ask(i, i+2)[i:])
		p.serves(i)
		p.told(ids[i], x.parts(i, i+1))
	}
	if v := p.x.Stat().Mux.Streams; len(v) != 0 {
		t.Errorf("%+v", v)
	}
}
