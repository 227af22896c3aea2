package transfer_test

import (
	"bytes"
	"fmt"
	"slices"
	"strings"
	"testing"

	"braid/api"
)

// exam is a fetch whose request is under way, and whose answer is judged.
type exam struct {
	peer
	f       file
	numbers []int // that are asked for; none: the manifest is
	have    int   // pieces that were there ahead of that
	id      uint64
}

// examM is one that has asked for the manifest of f.
func examM(t *testing.T, f file) exam {
	t.Helper()
	p := facing(t, wide(), nil)
	p.fetch(f.name, 0, 1, 1, api.OK)
	p.asked(1, requestM(f.name))
	return exam{peer: p, f: f, id: 1}
}

// examP is one that has asked for the pieces of f but these.
func examP(t *testing.T, f file, there ...int) exam {
	t.Helper()
	records := [][]byte{kind(1, recordM(f))}
	for _, i := range there {
		records = append(records, kind(2, recordP(f, i)))
	}
	c := wide()
	c.Batch = api.MaxBatch
	p := facing(t, c, logOf(t, records...))
	p.fetch(f.name, 0, 1, 1, api.OK)
	x := exam{peer: p, f: f, have: len(there), id: 1}
	var l []int
	for i := range f.count() {
		if !slices.Contains(there, i) {
			x.numbers = append(x.numbers, i)
			if n := len(l); n > 0 && l[n-1] == i {
				l[n-1]++
			} else {
				l = append(l, i, i+1)
			}
		}
	}
	p.asked(1, f.ask(l...))
	return x
}

func (x exam) judge(text string) verdict {
	if x.numbers == nil {
		return judgeM(x.f.name, []byte(text))
	}
	return judgeP(x.f.manifest(), x.numbers, []byte(text))
}

// right is the whole right answer.
func (x exam) right() string {
	if x.numbers == nil {
		return x.f.answer()
	}
	return x.f.parts(x.numbers...)
}

// sits writes an answer in pieces of n bytes, and holds what becomes of the fetch behind each of them against the verdict; and so behind its end. It tells whether the fetch has failed.
func (x exam) sits(text string, n int) bool {
	x.t.Helper()
	for at := 0; at < len(text); at += n {
		x.write(x.id, text[at:min(at+n, len(text))])
		v := x.judge(text[:min(at+n, len(text))])
		if v.wrong {
			x.stands(1, failed, x.have+v.took, 1, 0)
			x.given(text)
			return true
		}
		x.still(text, v)
	}
	v := x.judge(text)
	x.ends(x.id)
	got := x.view(1)
	switch {
	case !v.whole:
		x.stands(1, failed, x.have+v.took, 1, 0)
	case v.state != 0:
		x.stands(1, v.state, x.have+v.took, 1, 0)
	case x.numbers != nil:
		x.stands(1, done, x.f.count(), 1, 0)
	case got.Manifest != v.m || got.Asked != 1 && v.m.Size == 0 || got.Asked == 1 && v.m.Size != 0:
		x.t.Errorf("behind %q: %+v", text, got)
	}
	return !v.whole
}

// still is a fetch whose answer has not ended.
func (x exam) still(text string, v verdict) {
	x.t.Helper()
	state := asking
	if x.numbers != nil {
		state = getting
	}
	x.stands(1, state, x.have+v.took, 1, x.id)
	if x.numbers == nil && x.view(1).Manifest != (api.Manifest{}) {
		x.t.Errorf("a manifest counts ahead of its end: %q", text)
	}
}

// given is when the stream was dropped: no more is wanted of it.
func (x exam) given(text string) {
	x.t.Helper()
	if _, e := x.m.Write(x.id, []byte("x")); e != api.ErrMuxStream {
		x.t.Errorf("behind %q the stream goes on: %d", text, e)
	}
	x.quiet()
}

// exams makes the same exam anew each time.
func exams(t *testing.T) map[string]func() exam {
	x := fileOf("x", "abcdefg", 3)
	return map[string]func() exam{
		"a manifest":          func() exam { return examM(t, x) },
		"one of no pieces":    func() exam { return examM(t, fileOf("e", "", 9)) },
		"all pieces":          func() exam { return examP(t, x) },
		"two, apart":          func() exam { return examP(t, x, 1) },
		"the last one":        func() exam { return examP(t, x, 0, 1) },
		"the only one":        func() exam { return examP(t, fileOf("y", "ab", 2)) },
		"one within, of many": func() exam { return examP(t, fileOf("z", "abcdefgh", 1), 0, 1, 2, 3, 4, 6, 7) },
	}
}

// P23.10: each right answer, in pieces of each size; and with its end too early at each place.
func TestAnswerCut(t *testing.T) {
	for what, begin := range exams(t) {
		right := begin().right()
		for n := 1; n <= len(right); n++ {
			if begin().sits(right, n) {
				t.Fatalf("%s: fails in pieces of %d bytes", what, n)
			}
		}
		for n := range len(right) {
			if x := begin(); !x.sits(right[:n], max(n, 1)) || !begin().sits(right[:n], 1) {
				t.Fatalf("%s: does not fail behind %d of %d bytes", what, n, len(right))
			}
		}
	}
}

// P23.10: with each byte changed.
func TestAnswerChanged(t *testing.T) {
	for what, begin := range exams(t) {
		right := begin().right()
		for i := range len(right) {
			for _, by := range []byte{1, 0x80, 0xff} {
				b := []byte(right)
				b[i] ^= by
				// 59 ^ 0x17 would be N, and 59 ^ 0x1a C; neither comes of these.
				if !begin().sits(string(b), 1) || !begin().sits(string(b), len(b)) {
					t.Fatalf("%s: the byte %d may be another one", what, i)
				}
			}
		}
	}
}

// P23.10: each first byte, with the end behind it and with another byte.
func TestFirstByte(t *testing.T) {
	for what, begin := range exams(t) {
		ofPieces := begin().numbers != nil
		for c := range 256 {
			first := string([]byte{byte(c)})
			failing := c != 'N' && (c != 'C' || !ofPieces)
			if begin().sits(first, 1) != failing {
				t.Fatalf("%s: %q", what, first)
			}
			if c == 'Y' {
				continue
			}
			for _, behind := range []string{"\x00", first, "YY"} {
				for _, n := range []int{1, 9} {
					if !begin().sits(first+behind, n) {
						t.Fatalf("%s: %q may stand behind %q", what, behind, first)
					}
				}
			}
		}
	}
}

// P23.10: bytes behind an answer fail at once, but what was right ahead of them stays, if it counts ahead of the end.
func TestBytesBehind(t *testing.T) {
	for what, begin := range exams(t) {
		right := begin().right()
		for _, behind := range []string{"\x00", "Y", right} {
			for _, n := range []int{1, 2, 1000} {
				x := begin()
				if !x.sits(right+behind, n) {
					t.Fatalf("%s: %q may stand behind it", what, behind)
				}
				x.again(1, api.OK)
				if x.numbers == nil {
					x.stands(1, asking, 0, 2, 3)
				} else {
					// All pieces had come.
					x.stands(1, done, x.f.count(), 1, 0)
					x.data(1, x.f.data, api.OK)
				}
			}
		}
	}
}

// P23.10: manifests that are none, or of another name.
func TestManifests(t *testing.T) {
	x := fileOf("x", "abcdefg", 3)
	right := x.answer()
	other := fileOf("y", "abcdefg", 3)
	for what, text := range map[string]string{
		"of another name":     other.answer(),
		"of a longer name":    fileOf("xx", "abcdefg", 3).answer(),
		"of no bytes":         "Y" + two(0),
		"of one byte":         "Y" + two(1) + "B",
		"one byte shorter":    "Y" + two(49) + right[3:52],
		"one byte longer":     "Y" + two(51) + right[3:] + "\x00",
		"of all the bytes":    "Y" + two(65535) + right[3:] + strings.Repeat("\x00", 65535-50),
		"with its head twice": "Y" + two(53) + right,
		"none at all":         "Y" + two(50) + strings.Repeat("\x00", 50),
	} {
		for _, n := range []int{1, 7, 1 << 20} {
			if n == 1 && len(text) > 1000 {
				continue
			}
			if !examM(t, x).sits(text, n) {
				t.Fatalf("a manifest %s is taken", what)
			}
		}
	}
	// What may be told with a sum of its own is believed: a file that nobody can have.
	for _, m := range []api.Manifest{
		{Name: "x", Size: api.MaxFile, Piece: 1},
		{Name: "x", Size: 1, Piece: api.MaxPiece, Root: x.root()},
	} {
		e := examM(t, x)
		if e.sits(answerM(m), 1<<20) {
			t.Fatalf("%v is not taken", m)
		}
		e.asked(3, requestP("x", m.Root, 0, min(m.Size, 2)))
		e.answers(3, fileOf("x", "a", 1).parts(0))
		e.stands(1, failed, 0, 2, 0)
	}
}

// P23.10: pieces with another number, another path, other bytes.
func TestPieces(t *testing.T) {
	x := fileOf("x", letters(40), 9)
	other := fileOf("x", letters(41), 9)
	part := func(number, digests int, path, data string) string {
		return "Y" + four(number) + string([]byte{byte(digests)}) + path + data
	}
	way := string(bytes.Join(path(x.leaves, 1), nil))
	for what, text := range map[string]string{
		"a later one first":   x.parts(2),
		"one that is there":   x.parts(0),
		"one twice":           x.parts(1, 1),
		"in another order":    x.parts(1, 3, 2),
		"one is left out":     x.parts(1, 3),
		"a far number":        part(1<<32-1, 3, way, x.cut(1)),
		"another one's bytes": part(1, 3, way, x.cut(2)),
		"another one's path":  part(1, 3, string(bytes.Join(path(x.leaves, 2), nil)), x.cut(1)),
		"no path":             part(1, 0, "", x.cut(1)),
		"a path that lacks":   part(1, 2, way[:64], x.cut(1)),
		"one with more":       part(1, 4, way+way[:32], x.cut(1)),
		"the longest path":    part(1, 255, way+strings.Repeat("a", 252*32), x.cut(1)),
		"turned about":        part(1, 3, way[32:]+way[:32], x.cut(1)),
		"another file's":      other.parts(1),
	} {
		for _, n := range []int{1, 7, 1 << 20} {
			if !examP(t, x, 0).sits(text, n) {
				t.Fatalf("%s is taken", what)
			}
		}
	}
}

// P23.10: an answer that the peer gives up, at each place.
func TestAnswerReset(t *testing.T) {
	for what, begin := range exams(t) {
		right := begin().right()
		for n := range len(right) + 1 {
			x := begin()
			x.write(x.id, right[:n])
			x.m.Reset(x.id, 3)
			x.pass()
			x.stands(1, failed, x.have+x.judge(right[:n]).took, 1, 0)
			if v := x.x.Stat().Mux.Streams; len(v) != 0 || t.Failed() {
				t.Fatalf("%s: %+v", what, v)
			}
			// Bytes that had not been read are lost by it.
			x = begin()
			x.m.Write(x.id, []byte(right[:n]))
			b := x.m.Out(1 << 20)
			x.m.Reset(x.id, 3)
			x.feed(append(b, x.m.Out(1000)...), api.OK)
			x.stands(1, failed, x.have, 1, 0)
		}
	}
}

// P23.10: a request that the peer does not want is answered all the same.
func TestRequestNotWanted(t *testing.T) {
	x := fileOf("x", "abcdefg", 30)
	c := small()
	c.Mux.Peer.Each = 1
	p := facing(t, c, nil)
	p.fetch("x", 0, 1, 1, api.OK)
	p.m.Feed(p.x.Out(1000))
	if id, ok := p.m.Accept(); id != 1 || !ok {
		t.Fatal("no stream")
	}
	p.m.Stop(1, 4)
	p.pass()
	p.stands(1, asking, 0, 1, 1)
	if _, e := p.x.Data(1); e != stateErr {
		t.Error(e)
	}
	for _, b := range []byte(x.answer()) {
		p.m.Write(1, []byte{b})
		p.pass()
	}
	p.m.Close(1)
	p.pass()
	p.stands(1, getting, 0, 2, 3)
}

// P23.10: an answer may be there ahead of the request having gone out; its stream lives on then without the fetch.
func TestAnswerAhead(t *testing.T) {
	c := wide()
	c.Mux.Peer.Each = 1
	p := facing(t, c, nil)
	p.fetch("x", 0, 1, 1, api.OK)
	p.m.Feed(p.x.Out(1000))
	p.m.Accept()
	p.m.Write(1, []byte("N"))
	p.m.Close(1)
	p.x.Feed(p.m.Out(1000))
	p.stands(1, missing, 0, 1, 0)
	if v := p.x.Stat().Mux.Streams; len(v) != 1 || v[0].Sending != api.HalfShut || v[0].Deaf {
		t.Errorf("%+v", v)
	}
	for range 5 {
		p.read(1)
		p.pass()
	}
	if v := p.x.Stat().Mux.Streams; len(v) != 0 {
		t.Errorf("%+v", v)
	}
	// If it is not right, the half is given up.
	p.again(1, api.OK)
	p.stands(1, asking, 0, 2, 3)
	p.m.Feed(p.x.Out(1000))
	p.m.Accept()
	p.m.Write(3, []byte("?"))
	p.m.Close(3)
	p.x.Feed(p.m.Out(1000))
	p.stands(1, failed, 0, 2, 0)
	if b := p.x.Out(1000); !bytes.Equal(b, []byte{api.MuxReset, 3, 1}) {
		t.Errorf("%x goes out", b)
	}
}

// P23.10: how a fetch goes on, from answer to answer.
func TestGoesOn(t *testing.T) {
	x := fileOf("x", letters(50), 10)
	empty := fileOf("x", "", 10)
	c := wide()
	p := facing(t, c, nil)
	p.fetch("x", 3, 9, 1, api.OK)
	p.asked(1, requestM("x"))
	p.answers(1, x.answer())
	for i, l := range [][]int{{0, 2}, {2, 4}, {4, 5}} {
		id := uint64(2*i + 3)
		p.stands(1, getting, l[0], i+2, id)
		p.asked(id, x.ask(l...))
		if v := p.half(id); v.Class != 3 || v.Share != 9 {
			t.Errorf("%+v", v)
		}
		var all []int
		for n := l[0]; n < l[1]; n++ {
			all = append(all, n)
		}
		p.answers(id, x.parts(all...))
	}
	p.stands(1, done, 5, 4, 0)
	p.data(1, x.data, api.OK)
	p.quiet()

	p = facing(t, c, nil)
	p.fetch("x", 0, 1, 1, api.OK)
	p.asked(1, requestM("x"))
	p.answers(1, empty.answer())
	p.stands(1, done, 0, 1, 0)
	p.data(1, "", api.OK)
	p.quiet()

	// The peer has another file of that name, or none, in the midst of it.
	p = facing(t, c, nil)
	p.fetch("x", 0, 1, 1, api.OK)
	p.asked(1, requestM("x"))
	p.answers(1, x.answer())
	p.asked(3, x.ask(0, 2))
	p.answers(3, x.parts(0, 1))
	p.asked(5, x.ask(2, 4))
	p.answers(5, "C")
	p.stands(1, changed, 2, 3, 0)
	if v := p.view(1); v.Manifest != x.manifest() {
		t.Errorf("%+v", v)
	}
	p.quiet()
	p.again(1, api.OK)
	p.stands(1, asking, 0, 4, 7)
	if v := p.view(1); v.Manifest != (api.Manifest{}) {
		t.Errorf("%+v", v)
	}
	p.asked(7, requestM("x"))
	p.answers(7, x.answer())
	p.asked(9, x.ask(0, 2))
	p.answers(9, "N")
	p.stands(1, missing, 0, 5, 0)
	p.again(1, api.OK)
	p.asked(11, x.ask(0, 2))
	p.cancel(1, api.OK)
	p.stands(1, cancelled, 0, 6, 0)
	p.again(1, api.OK)
	p.asked(13, x.ask(0, 2))
	p.answers(13, x.parts(0)+"?")
	p.stands(1, failed, 1, 7, 0)
	p.again(1, api.OK)
	p.asked(15, x.ask(1, 3))
}

// P23.10: Batch, and how many stretches a request has.
func TestBatch(t *testing.T) {
	x := fileOf("x", letters(3000), 1)
	for batch, want := range map[int][]int{
		1:            {1, 2},
		2:            {1, 2, 3, 4},
		3:            {1, 2, 3, 4, 5, 6},
		63:           asksFrom(1, 63),
		64:           asksFrom(1, 64),
		65:           asksFrom(1, 64),
		api.MaxBatch: asksFrom(1, 64),
	} {
		// Every other piece is there.
		records := [][]byte{kind(1, recordM(x))}
		for i := 0; i < x.count(); i += 2 {
			records = append(records, kind(2, recordP(x, i)))
		}
		c := wide()
		c.Batch = batch
		p := facing(t, c, logOf(t, records...))
		p.fetch("x", 0, 1, 1, api.OK)
		p.asked(1, x.ask(want...))
		if t.Failed() {
			t.Fatalf("Batch %d", batch)
		}
	}
	for batch, want := range map[int][]int{1: {0, 1}, 2: {0, 2}, 64: {0, 64}, 65: {0, 65}, 1023: {0, 1023}, api.MaxBatch: {0, 1024}} {
		c := wide()
		c.Batch = batch
		p := facing(t, c, logOf(t, kind(1, recordM(x))))
		p.fetch("x", 0, 1, 1, api.OK)
		p.asked(1, x.ask(want...))
	}
	// The stretches are those of the lowest pieces, the last one cut where the batch ends.
	c := wide()
	c.Batch = 7
	p := facing(t, c, logOf(t, kind(1, recordM(x)), kind(2, recordP(x, 3)), kind(2, recordP(x, 5))))
	p.fetch("x", 0, 1, 1, api.OK)
	p.asked(1, x.ask(0, 3, 4, 5, 6, 9))
	p.answers(1, x.parts(0, 1, 2, 4, 6, 7, 8))
	p.asked(3, x.ask(9, 16))
}

// asksFrom is n stretches of one number each, from a first one on, with one between.
func asksFrom(first, n int) []int {
	var l []int
	for i := range n {
		l = append(l, first+2*i, first+2*i+1)
	}
	return l
}

// P23.10: what an answer told ahead of the failing is known; and a fetch that has failed goes on with the rest.
func TestFailsInTheMidst(t *testing.T) {
	x := fileOf("x", letters(60), 10)
	log, _ := newLog(t, 5000)
	c := wide()
	c.Batch = 4
	p := facing(t, c, log)
	p.fetch("x", 0, 1, 1, api.OK)
	p.asked(1, requestM("x"))
	p.answers(1, x.answer())
	p.asked(3, x.ask(0, 4))
	p.answers(3, x.parts(0, 1)+"?")
	p.stands(1, failed, 2, 2, 0)
	recorded(t, log, kind(1, recordM(x)), kind(2, recordP(x, 0)), kind(2, recordP(x, 1)))
	p.again(1, api.OK)
	p.asked(5, x.ask(2, 6))
	p.write(5, x.parts(2))
	recorded(t, log, kind(1, recordM(x)), kind(2, recordP(x, 0)), kind(2, recordP(x, 1)), kind(2, recordP(x, 2)))
	p.cancel(1, api.OK)
	p.stands(1, cancelled, 3, 3, 0)
	// What still comes of it is nothing.
	p.m.Write(5, []byte(x.part(3)))
	p.pass()
	p.stands(1, cancelled, 3, 3, 0)
	p.again(1, api.OK)
	p.asked(7, x.ask(3, 6))
	p.answers(7, x.parts(3, 4, 5))
	p.data(1, x.data, api.OK)
}

// P23.10: pieces of the greatest size.
func TestBigPieces(t *testing.T) {
	x := fileOf("x", letters(3*api.MaxPiece+1), api.MaxPiece)
	p := facing(t, wide(), nil)
	p.fetch("x", 0, 1, 1, api.OK)
	p.asked(1, requestM("x"))
	p.answers(1, x.answer())
	p.asked(3, x.ask(0, 2))
	p.answers(3, x.parts(0, 1))
	p.asked(5, x.ask(2, 4))
	p.answers(5, x.parts(2, 3))
	p.stands(1, done, 4, 3, 0)
	p.data(1, x.data, api.OK)

	// And the other way.
	p = offering(t, wide(), x)
	p.told(p.ask(x.ask(1, 4)), x.parts(1, 2, 3))
	p.told(p.ask(x.ask(0, 1)), x.parts(0))
	if got, want := fmt.Sprint(x.part(0)[:9]), "\x00\x00\x00\x00\x02"; !strings.HasPrefix(got, want) {
		t.Errorf("%q", got)
	}
}
