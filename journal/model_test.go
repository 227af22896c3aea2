package journal_test

import (
	"encoding/binary"
	"hash/crc32"
	"math"
	"slices"
	"testing"

	"braid/api"
	"braid/journal"
)

// wrote is a write by the chapter's words.
type wrote struct {
	at int
	b  []byte
}

// diskByBook has no cache: what is there is reckoned anew out of the first bytes and all writes.
type diskByBook struct {
	first []byte
	all   []wrote
	safe  int // of all
	ages  int // crashes and Opens
}

func (m *diskByBook) after(n int) []byte {
	b := slices.Clone(m.first)
	for _, w := range m.all[:n] {
		for i, x := range w.b {
			b[w.at+i] = x
		}
	}
	return b
}

func (m *diskByBook) look() look {
	return look{len(m.first), len(m.all) - m.safe, string(m.after(len(m.all))), string(m.after(m.safe))}
}

func (m *diskByBook) write(at int, b []byte) api.Errno {
	if !lies(at, len(b), len(m.first)) {
		return placeErr
	}
	if len(b) != 0 {
		m.all = append(m.all, wrote{at, slices.Clone(b)})
	}
	return api.OK
}

func (m *diskByBook) read(at, n int) ([]byte, api.Errno) {
	if !lies(at, n, len(m.first)) {
		return nil, placeErr
	}
	return m.after(len(m.all))[at:][:n], api.OK
}

func (m *diskByBook) sync() { m.safe = len(m.all) }

func (m *diskByBook) crash(keep, torn int) {
	waiting := m.all[m.safe:]
	var came []wrote
	for i, w := range waiting {
		switch {
		case i < keep:
			came = append(came, w)
		case i == keep || i == 0:
			var b []byte
			for j, x := range w.b {
				if j < torn {
					b = append(b, x)
				}
			}
			came = append(came, wrote{w.at, b})
		}
	}
	m.all = append(m.all[:m.safe:m.safe], came...)
	m.sync()
	m.ages++
}

// logByBook knows its records, and when it was opened.
type logByBook struct {
	d       *diskByBook
	age     int
	records []api.Record
}

// rightByBook is the right record of that number at a place of the bytes.
func rightByBook(b []byte, at, number int) (api.Record, bool) {
	for body := 0; body <= 65536 && at+body+18 <= len(b); body++ {
		x := b[at:][:body+18]
		if binary.BigEndian.Uint32(x) != uint32(body+1) {
			continue
		}
		sum := binary.BigEndian.Uint32(x[13+body:])
		if binary.BigEndian.Uint64(x[4:]) == uint64(number) && x[12] != 0 && sum == crc32.ChecksumIEEE(x[:13+body]) && x[17+body] == 0xa5 {
			return api.Record{Number: uint64(number), Kind: x[12], Body: x[13:][:body]}, true
		}
	}
	return api.Record{}, false
}

func (m *diskByBook) open() *logByBook {
	m.ages++
	l := &logByBook{d: m, age: m.ages}
	b := m.after(len(m.all))
	for {
		r, ok := rightByBook(b, l.end(), len(l.records))
		if !ok {
			break
		}
		l.records = append(l.records, r)
	}
	if rest := b[l.end():]; slices.Max(append(rest, 0)) > 0 {
		m.all = append(m.all, wrote{l.end(), make([]byte, len(rest))})
	}
	m.sync()
	return l
}

func (l *logByBook) end() int {
	n := 0
	for _, r := range l.records {
		n += 4 + 8 + 1 + len(r.Body) + 4 + 1
	}
	return n
}

func (l *logByBook) room() int { return min(len(l.d.first)-l.end()-18, 65536) }

func (l *logByBook) append(kind byte, body []byte) (uint64, api.Errno) {
	for _, x := range []struct {
		applies bool
		e       api.Errno
	}{
		{l.age != l.d.ages, deadErr},
		{kind == 0, kindErr},
		{len(body) > 65536, longErr},
		{l.end()+18+len(body) > len(l.d.first), fullErr},
	} {
		if x.applies {
			return 0, x.e
		}
	}
	n := uint64(len(l.records))
	l.d.write(l.end(), record(n, kind, body))
	l.records = append(l.records, api.Record{Number: n, Kind: kind, Body: slices.Clone(body)})
	return n, api.OK
}

func (l *logByBook) sync() api.Errno {
	if l.age != l.d.ages {
		return deadErr
	}
	l.d.sync()
	return api.OK
}

// both is a disk and its logs, held against the book behind each call.
type both struct {
	t     *testing.T
	d     disk
	m     *diskByBook
	logs  []log
	books []*logByBook
}

func newBoth(t *testing.T, image []byte) *both {
	t.Helper()
	return &both{t: t, d: loaded(t, image), m: &diskByBook{first: slices.Clone(image)}}
}

func (b *both) open() {
	b.t.Helper()
	b.logs = append(b.logs, b.d.open())
	b.books = append(b.books, b.m.open())
}

func (b *both) held(what string, args ...any) {
	b.t.Helper()
	if got, want := b.d.look(), b.m.look(); got != want {
		b.t.Fatalf("%s%v: the disk is %v, want %v", what, args, got, want)
	}
	for i, l := range b.logs {
		l.is(b.books[i].room(), b.books[i].records...)
	}
	if b.t.Failed() {
		b.t.Fatal(what, args)
	}
}

func (b *both) write(at int, p []byte) {
	b.t.Helper()
	if got, want := b.d.d.Write(at, p), b.m.write(at, p); got != want {
		b.t.Errorf("Write(%d, %d bytes): %d, want %d", at, len(p), got, want)
	}
	b.held("Write", at, len(p))
}

func (b *both) read(at, n int) {
	b.t.Helper()
	text, want := b.m.read(at, n)
	b.d.read(at, n, string(text), want)
}

func (b *both) crash(keep, torn int) {
	b.t.Helper()
	b.d.d.Crash(keep, torn)
	b.m.crash(keep, torn)
	b.held("Crash", keep, torn)
}

func (b *both) append(i int, kind byte, body []byte) {
	b.t.Helper()
	n, e := b.logs[i].l.Append(kind, body)
	if m, want := b.books[i].append(kind, body); n != m || e != want {
		b.t.Errorf("Append(%d, %d bytes): %d, %d, want %d, %d", kind, len(body), n, e, m, want)
	}
	b.held("Append", i, kind, len(body))
}

func (b *both) sync(i int) {
	b.t.Helper()
	if got, want := b.logs[i].l.Sync(), b.books[i].sync(); got != want {
		b.t.Errorf("Sync: %d, want %d", got, want)
	}
	b.held("Sync", i)
}

// near is a number about another one, or any.
func (d *dice) near(n int) int {
	switch d.below(10) {
	case 0:
		return n + 1
	case 1:
		return n - 1
	case 2:
		return d.one(0, -1, math.MinInt, math.MinInt+1)
	case 3:
		return d.one(math.MaxInt, math.MaxInt-n, 1<<32, 1<<62)
	case 4:
		return n
	}
	return d.below(max(n, 1))
}

// call makes any call.
func (d *dice) call(b *both) {
	b.t.Helper()
	size := len(b.m.first)
	which := d.below(len(b.logs))
	if d.below(3) > 0 {
		which = len(b.logs) - 1
	}
	switch d.below(16) {
	case 0, 1:
		b.write(d.near(size), d.bytes(d.below(min(size+2, 20))))
	case 2:
		// a record that the log does not know of, at its place or about there
		end := b.books[which].end()
		b.write(d.one(end, end, end+1, 0), record(uint64(len(b.books[which].records)), byte(d.below(3)), d.body()))
	case 3:
		b.read(d.near(size), d.near(size))
	case 4:
		b.d.d.Sync()
		b.m.sync()
		b.held("Sync of the disk")
	case 5, 6:
		b.crash(d.near(b.d.d.Pending()), d.near(30))
	case 7, 8:
		b.open()
		b.held("Open")
	case 9, 10:
		b.sync(which)
	case 11:
		b.append(which, byte(d.below(2)), make([]byte, d.one(65536, 65537, size, max(b.books[which].room(), 0), max(b.books[which].room()+1, 0))))
	default:
		b.append(which, byte(d.below(4)), d.body())
	}
}

// D1 to D3, P21.1 to P21.3: any calls, of dead logs too, against a second reckoning.
func TestAnyCalls(t *testing.T) {
	d := dice(9)
	for range 300 {
		b := newBoth(t, d.image())
		b.open()
		b.held("Open")
		for range 60 {
			d.call(b)
		}
	}
}

// image is a disk's bytes: none, any, or records.
func (d *dice) image() []byte {
	b := make([]byte, 1+d.below(300))
	switch d.below(3) {
	case 0:
		copy(b, d.bytes(len(b)))
	case 1:
		at := 0
		for i := range d.below(6) {
			at += copy(b[at:], record(uint64(i), byte(d.below(20)), d.body()))
		}
	}
	return b
}

// 0.3: two disks know nothing of one another: the answers are the same while another one is at work.
func TestApart(t *testing.T) {
	run := func(beside bool) []look {
		d, e := dice(7), dice(8)
		x, y := newBoth(t, d.image()), newBoth(t, e.image())
		x.open()
		y.open()
		var all []look
		for range 200 {
			d.call(x)
			if beside {
				e.call(y)
			}
			all = append(all, x.d.look())
		}
		return all
	}
	if !slices.Equal(run(true), run(false)) {
		t.Error("another disk shows")
	}
}

// A disk and a log that no call gave are without bytes, and nothing of them panics.
func TestPlain(t *testing.T) {
	d := &journal.Disk{}
	if d.Size() != 0 || d.Pending() != 0 || len(d.Image()) != 0 || d.Write(0, nil) != api.OK || d.Write(0, []byte{1}) != placeErr {
		t.Error("a plain disk has bytes")
	}
	d.Sync()
	d.Crash(1, 1)
	if l, e := journal.Open(d); e != api.OK || l.Len() != 0 || l.Room() != -18 {
		t.Errorf("Open of a plain disk: %d", e)
	}
	l := &journal.Log{}
	if _, e := l.Append(1, nil); e != deadErr || l.Sync() != deadErr || len(l.Records()) != 0 || l.Len() != 0 || l.Room() >= 0 {
		t.Errorf("a plain log is not dead: %d", e)
	}
}
