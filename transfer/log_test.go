package transfer_test

import (
	"strings"
	"testing"

	"braid/api"
	"braid/journal"
)

// knows fetches a name over a log, and tells by it what the log says: the pieces that are there.
func knows(t *testing.T, log *journal.Log, f file, there ...int) {
	t.Helper()
	c := wide()
	c.Batch = api.MaxBatch
	p := facing(t, c, log)
	p.fetch(f.name, 0, 1, 1, api.OK)
	if v := p.view(1); v.Manifest != f.manifest() || v.Have != len(there) {
		t.Errorf("%q: %d pieces of %v, want %d of %v", f.name, v.Have, v.Manifest, len(there), f.manifest())
		return
	}
	if len(there) == f.count() {
		p.stands(1, done, f.count(), 0, 0)
		p.data(1, f.data, api.OK)
		return
	}
	// What is asked for is all that is not there.
	p.stands(1, getting, len(there), 1, 1)
	var numbers, l []int
	for i := range f.count() {
		if !has(there, i) {
			numbers = append(numbers, i)
			l = append(l, i, i+1)
			if n := len(l); n > 2 && l[n-3] == i {
				l = append(l[:n-3], i+1)
			}
		}
	}
	p.asked(1, f.ask(l...))
	p.answers(1, f.parts(numbers...))
	p.data(1, f.data, api.OK)
}

func has(l []int, i int) bool {
	for _, n := range l {
		if n == i {
			return true
		}
	}
	return false
}

// unknown fetches a name of which nothing is known.
func unknown(t *testing.T, log *journal.Log, name string) {
	t.Helper()
	p := facing(t, small(), log)
	p.fetch(name, 0, 1, 1, api.OK)
	p.stands(1, asking, 0, 1, 1)
	if v := p.view(1); v.Manifest != (api.Manifest{}) {
		t.Errorf("%+v", v)
	}
	p.asked(1, requestM(name))
}

// P23.1: no log, an empty one, one that Open did not give.
func TestNoRecords(t *testing.T) {
	empty, _ := newLog(t, 100)
	for _, log := range []*journal.Log{nil, empty, {}} {
		unknown(t, log, "x")
	}
	unknown(t, logOf(t, kind(3, []byte("x")), kind(4, nil)), "x")
}

// P23.1: what records tell.
func TestRecall(t *testing.T) {
	x, y := fileOf("x", "abcdefg", 3), fileOf("y", "abcdefg", 3)
	long := fileOf(strings.Repeat("n", api.MaxName), "abcde", 1)
	empty := fileOf("empty", "", 4)
	log := logOf(t, kind(1, recordM(x)), kind(1, recordM(y)), kind(1, recordM(long)), kind(1, recordM(empty)),
		kind(2, recordP(x, 2)), kind(2, recordP(long, 3)), kind(2, recordP(x, 0)), kind(2, recordP(long, 0)))
	knows(t, log, x, 0, 2)
	knows(t, log, y)
	knows(t, log, long, 0, 3)
	knows(t, log, empty)
	unknown(t, log, "z")
	unknown(t, log, "X")
	log.Append(2, recordP(x, 1))
	for range 2 {
		knows(t, log, x, 0, 1, 2)
	}
}

// P23.1: records that tell nothing, each with what is right ahead of it and behind it.
func TestRecordsThatAreNothing(t *testing.T) {
	x := fileOf("x", "abcdefgh", 3)
	other := fileOf("x", "abcdefgi", 3)
	m, p := recordM(x), recordP(x, 1)
	with := func(b []byte, at int, by byte) []byte {
		b = append([]byte(nil), b...)
		b[at] ^= by
		return b
	}
	nothing := map[string][]byte{
		"a manifest of another kind":     kind(3, m),
		"of a piece's kind":              kind(2, m),
		"a piece of another kind":        kind(3, p),
		"of a manifest's kind":           kind(1, p),
		"of the greatest kind":           kind(255, p),
		"no manifest":                    kind(1, nil),
		"a manifest and more":            kind(1, append(recordM(x), 0)),
		"a manifest and less":            kind(1, m[:len(m)-1]),
		"one of no name":                 kind(1, []byte("BRP1\x00")),
		"an empty piece":                 kind(2, nil),
		"a piece without bytes":          kind(2, p[:len(p)-3]),
		"a piece with too few":           kind(2, p[:len(p)-1]),
		"a piece with too many":          kind(2, append(recordP(x, 1), 'x')),
		"the last piece with too many":   kind(2, pieceRecord("x", x.root(), 2, "ghi")),
		"the last piece with too few":    kind(2, pieceRecord("x", x.root(), 2, "g")),
		"a piece that is not there":      kind(2, pieceRecord("x", x.root(), 3, "abc")),
		"one behind it":                  kind(2, pieceRecord("x", x.root(), 3, "")),
		"a far one":                      kind(2, pieceRecord("x", x.root(), 1<<32-1, "abc")),
		"one that is 1 by its last byte": kind(2, pieceRecord("x", x.root(), 1<<24+1, "def")),
		"another name's":                 kind(2, pieceRecord("y", x.root(), 1, "def")),
		"a longer name's":                kind(2, pieceRecord("xx", x.root(), 1, "def")),
		"no name's":                      kind(2, pieceRecord("", x.root(), 1, "def")),
		"another root's":                 kind(2, pieceRecord("x", other.root(), 1, "def")),
		"no root's":                      kind(2, pieceRecord("x", api.Sum{}, 1, "def")),
		"a name that is cut":             kind(2, []byte("\xff"+string(p[1:]))),
	}
	for i := range m {
		nothing["a manifest with its byte "+four(i)] = kind(1, with(m, i, 1))
	}
	for i := range 1 + len("x") + 32 + 4 {
		nothing["a piece with its byte "+four(i)] = kind(2, with(p, i, 0x10))
	}
	for n := range len(p) {
		nothing["a piece cut at "+four(n)] = kind(2, p[:n])
	}
	for what, record := range nothing {
		for _, log := range []*journal.Log{
			logOf(t, record),
			logOf(t, record, kind(2, p)),
		} {
			unknown(t, log, "x")
		}
		knows(t, logOf(t, kind(1, m), record, kind(2, recordP(x, 2))), x, 2)
		knows(t, logOf(t, kind(2, recordP(x, 2)), record, kind(1, m), kind(2, recordP(x, 0)), record), x, 0)
		if t.Failed() {
			t.Fatalf("%q", what)
		}
	}
}

// P23.1: a piece is believed without a proof, and what was there first stays.
func TestRecallBelieves(t *testing.T) {
	x := fileOf("x", "abcdefgh", 3)
	log := logOf(t, kind(1, recordM(x)), kind(2, pieceRecord("x", x.root(), 0, "???")), kind(2, recordP(x, 0)), kind(2, recordP(x, 1)), kind(2, pieceRecord("x", x.root(), 1, "!!!")), kind(2, recordP(x, 2)))
	c := begin(t, 0, small(), log)
	c.fetch("x", 0, 1, 1, api.OK)
	c.data(1, "???defgh", api.OK)
}

// P23.1: one name by two manifests in turn: by each it is known without pieces, whatever was known ahead of it.
func TestRecallInTurn(t *testing.T) {
	x, other := fileOf("x", "abcdefg", 3), fileOf("x", "abcdxyz", 3)
	m, n := kind(1, recordM(x)), kind(1, recordM(other))
	knows(t, logOf(t, m, kind(2, recordP(x, 0)), m), x)
	knows(t, logOf(t, m, kind(2, recordP(x, 0)), n), other)
	knows(t, logOf(t, m, kind(2, recordP(x, 0)), n, m), x)
	knows(t, logOf(t, m, kind(2, recordP(x, 0)), n, kind(2, recordP(other, 1)), kind(2, recordP(x, 2))), other, 1)
	knows(t, logOf(t, m, kind(2, recordP(other, 0)), n, kind(2, recordP(x, 1)), m, kind(2, recordP(x, 2)), kind(2, recordP(other, 0))), x, 2)
	// Another cut has another root.
	finer := fileOf("x", "abcdefg", 2)
	knows(t, logOf(t, m, kind(1, recordM(finer)), kind(2, recordP(x, 0)), kind(2, recordP(finer, 3))), finer, 3)
	// Of one piece it has not: then the manifest alone tells what it is.
	a, b := fileOf("x", "ab", 2), fileOf("x", "ab", 9)
	knows(t, logOf(t, kind(1, recordM(a)), kind(2, recordP(a, 0)), kind(1, recordM(b))), b)
	knows(t, logOf(t, kind(1, recordM(a)), kind(1, recordM(b)), kind(2, recordP(a, 0))), b, 0)
}

// P23.1: what is appended by others behind New is not known.
func TestRecallOnce(t *testing.T) {
	x := fileOf("x", "ab", 2)
	log, _ := newLog(t, 1000)
	p := facing(t, wide(), log)
	log.Append(1, recordM(x))
	log.Append(2, recordP(x, 0))
	p.fetch("x", 0, 1, 1, api.OK)
	p.asked(1, requestM("x"))
	p.answers(1, x.answer())
	p.asked(3, x.ask(0, 1))
	knows(t, log, x)
	p.answers(3, x.parts(0))
	knows(t, log, x, 0)
}

// P23.10: what comes is appended to the log as it comes, and not made safe but by Sync.
func TestRecords(t *testing.T) {
	x, empty := fileOf("x", "abcdefg", 3), fileOf("empty", "", 3)
	log, disk := newLog(t, 2000)
	p := facing(t, wide(), log)
	p.fetch("x", 0, 1, 1, api.OK)
	p.asked(1, requestM("x"))
	p.write(1, x.answer())
	recorded(t, log)
	p.ends(1)
	want := [][]byte{kind(1, recordM(x))}
	recorded(t, log, want...)
	p.asked(3, x.ask(0, 2))
	p.write(3, x.parts(0))
	want = append(want, kind(2, recordP(x, 0)))
	recorded(t, log, want...)
	p.fetch("empty", 0, 1, 2, api.OK)
	p.asked(5, requestM("empty"))
	p.answers(5, empty.answer())
	want = append(want, kind(1, recordM(empty)))
	recorded(t, log, want...)
	p.write(3, x.part(1)[:70])
	recorded(t, log, want...)
	p.write(3, x.part(1)[70:])
	want = append(want, kind(2, recordP(x, 1)))
	recorded(t, log, want...)
	p.ends(3)
	if n := disk.Pending(); n != len(want) {
		t.Errorf("%d writes are not safe, want %d", n, len(want))
	}
	p.sync(api.OK)
	if n := disk.Pending(); n != 0 {
		t.Errorf("%d writes are not safe behind Sync", n)
	}
	p.asked(7, x.ask(2, 3))
	p.answers(7, x.parts(2))
	recorded(t, log, append(want, kind(2, recordP(x, 2)))...)

	// Nothing else is kept: neither what is missing, nor changed, nor what is offered.
	log, _ = newLog(t, 2000)
	p = facing(t, wide(), log)
	p.offer("x", "abc", 1, api.OK)
	p.told(p.ask(requestM("x")), fileOf("x", "abc", 1).answer())
	p.fetch("x", 0, 1, 1, api.OK)
	p.asked(1, requestM("x"))
	p.answers(1, "N")
	p.again(1, api.OK)
	p.asked(3, requestM("x"))
	p.answers(3, x.answer()+"?")
	p.again(1, api.OK)
	p.cancel(1, api.OK)
	p.sync(api.OK)
	recorded(t, log)
}

// P23.10: what the log refuses is not kept, and nothing else comes of it: it is full.
func TestFullLog(t *testing.T) {
	x := fileOf("x", letters(40), 10)
	// How much a record takes, beside its body: 18 bytes.
	manifest, piece := 18+len(recordM(x)), 18+len(recordP(x, 0))
	if piece >= manifest || manifest >= 2*piece {
		t.Fatal("the sizes are otherwise than this test needs")
	}
	for size, want := range map[int][][]byte{
		1:                      nil,
		manifest - 1:           {kind(2, recordP(x, 0))},
		manifest:               {kind(1, recordM(x))},
		manifest + piece - 1:   {kind(1, recordM(x))},
		manifest + piece:       {kind(1, recordM(x)), kind(2, recordP(x, 0))},
		manifest + 3*piece + 5: {kind(1, recordM(x)), kind(2, recordP(x, 0)), kind(2, recordP(x, 1)), kind(2, recordP(x, 2))},
	} {
		log, _ := newLog(t, size)
		p := facing(t, wide(), log)
		p.fetch("x", 0, 1, 1, api.OK)
		p.asked(1, requestM("x"))
		p.answers(1, x.answer())
		p.asked(3, x.ask(0, 2))
		p.answers(3, x.parts(0, 1))
		p.asked(5, x.ask(2, 4))
		p.answers(5, x.parts(2, 3))
		p.data(1, x.data, api.OK)
		recorded(t, log, want...)
	}
}

// P23.10: a short record has room where a long one has not.
func TestFullLogTakesWhatFits(t *testing.T) {
	x := fileOf("x", letters(41), 20)
	log, _ := newLog(t, 18+len(recordM(x))+18+len(recordP(x, 0))-1)
	p := facing(t, wide(), log)
	p.fetch("x", 0, 1, 1, api.OK)
	p.asked(1, requestM("x"))
	p.answers(1, x.answer())
	p.asked(3, x.ask(0, 2))
	p.answers(3, x.parts(0, 1))
	p.asked(5, x.ask(2, 3))
	p.answers(5, x.parts(2))
	p.data(1, x.data, api.OK)
	recorded(t, log, kind(1, recordM(x)), kind(2, recordP(x, 2)))
	knows(t, log, x, 2)
}

// P23.10: it is dead, by a crash or by another Open; or Open did not give it.
func TestDeadLog(t *testing.T) {
	x := fileOf("x", letters(40), 10)
	for _, kill := range []func(d *journal.Disk){
		func(d *journal.Disk) { d.Crash(0, 0) },
		func(d *journal.Disk) { journal.Open(d) },
	} {
		log, disk := newLog(t, 2000)
		p := facing(t, wide(), log)
		p.fetch("x", 0, 1, 1, api.OK)
		p.asked(1, requestM("x"))
		p.answers(1, x.answer())
		p.asked(3, x.ask(0, 2))
		kill(disk)
		p.answers(3, x.parts(0, 1))
		p.sync(deadErr)
		p.asked(5, x.ask(2, 4))
		p.answers(5, x.parts(2, 3))
		p.data(1, x.data, api.OK)
		recorded(t, log, kind(1, recordM(x)))
		unread, _ := journal.Open(disk)
		if n := unread.Len(); n > 1 {
			t.Errorf("%d records lie on the disk", n)
		}
	}
	p := facing(t, wide(), &journal.Log{})
	p.fetch("x", 0, 1, 1, api.OK)
	p.asked(1, requestM("x"))
	p.answers(1, x.answer())
	p.stands(1, getting, 0, 2, 3)
	p.sync(deadErr)
}

// P23.10: a piece that is too long for a record.
func TestLongPiece(t *testing.T) {
	most := api.MaxRecord - len(pieceRecord("x", api.Sum{}, 0, ""))
	for _, piece := range []int{most, most + 1} {
		x := fileOf("x", letters(piece+1), piece)
		log, _ := newLog(t, 1<<20)
		p := facing(t, wide(), log)
		p.fetch("x", 0, 1, 1, api.OK)
		p.asked(1, requestM("x"))
		p.answers(1, x.answer())
		p.asked(3, x.ask(0, 2))
		p.answers(3, x.parts(0, 1))
		p.data(1, x.data, api.OK)
		if piece == most {
			recorded(t, log, kind(1, recordM(x)), kind(2, recordP(x, 0)), kind(2, recordP(x, 1)))
			knows(t, log, x, 0, 1)
		} else {
			recorded(t, log, kind(1, recordM(x)), kind(2, recordP(x, 1)))
			knows(t, log, x, 1)
		}
	}
}

// P23.4, P23.14: what was known of a changed name is forgotten here, but not in the log, till another manifest comes.
func TestForgotten(t *testing.T) {
	x, other := fileOf("x", "abcdefg", 3), fileOf("x", "other", 2)
	log := logOf(t, kind(1, recordM(x)), kind(2, recordP(x, 0)))
	p := facing(t, wide(), log)
	p.fetch("x", 0, 1, 1, api.OK)
	p.asked(1, x.ask(1, 3))
	p.answers(1, "C")
	p.again(1, api.OK)
	p.stands(1, asking, 0, 2, 3)
	p.asked(3, requestM("x"))
	p.cancel(1, api.OK)
	p.again(1, api.OK)
	p.stands(1, asking, 0, 3, 5)
	recorded(t, log, kind(1, recordM(x)), kind(2, recordP(x, 0)))
	p.asked(5, requestM("x"))
	p.answers(5, other.answer())
	p.asked(7, other.ask(0, 2))
	p.answers(7, other.parts(0, 1))
	want := [][]byte{kind(1, recordM(x)), kind(2, recordP(x, 0)), kind(1, recordM(other)), kind(2, recordP(other, 0)), kind(2, recordP(other, 1))}
	recorded(t, log, want...)
	knows(t, log, other, 0, 1)
	knows(t, logOf(t, want[:2]...), x, 0)
}

// P23.14: two Transfers over one log, in turn: the second one asks for what the first one has not.
func TestKept(t *testing.T) {
	x := fileOf("x", letters(100), 10)
	other := fileOf("x", letters(90), 9)
	log, disk := newLog(t, 5000)
	for i := range 6 {
		c := wide()
		c.Batch = 1
		p := facing(t, c, log)
		p.fetch("x", 0, 1, 1, api.OK)
		id := uint64(1)
		if i == 0 {
			p.asked(1, requestM("x"))
			p.answers(1, x.answer())
			id = 3
		}
		p.asked(id, x.ask(i, i+1))
		p.answers(id, x.parts(i))
		p.asked(id+2, x.ask(i+1, i+2))
		if i == 3 {
			p.sync(api.OK)
			disk.Crash(0, 0)
			log, _ = journal.Open(disk)
		}
	}
	p := facing(t, wide(), log)
	p.fetch("x", 0, 1, 1, api.OK)
	p.asked(1, x.ask(6, 8))
	p.answers(1, "C")
	p.again(1, api.OK)
	p.asked(3, requestM("x"))
	p.answers(3, other.answer())
	knows(t, logOf(t, kind(1, recordM(other))), other)
	p.asked(5, other.ask(0, 2))
	p.answers(5, other.parts(0, 1))
	knows(t, log, other, 0, 1)
}
