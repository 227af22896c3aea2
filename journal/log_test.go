package journal_test

import (
	"strings"
	"testing"

	"braid/api"
	"braid/journal"
)

// The chapter's first example.
func TestExample1(t *testing.T) {
	d := zeros(t, 60)
	l := d.open()
	l.is(42)
	l.append(1, "ab", 0)
	if d.d.Pending() != 1 {
		t.Errorf("Pending: %d", d.d.Pending())
	}
	l.is(22, rec(0, 1, "ab"))
	l.append(2, "", 1)
	l.is(4, rec(0, 1, "ab"), rec(1, 2, ""))
	l.refuse(1, "12345", fullErr)
	l.append(1, "1234", 2)
	l.is(-18, rec(0, 1, "ab"), rec(1, 2, ""), rec(2, 1, "1234"))
}

// The chapter's second example.
func TestExample2(t *testing.T) {
	for torn, want := range []int{17: 1, 18: 2} {
		if want == 0 {
			continue
		}
		d := zeros(t, 60)
		l := d.open()
		l.append(1, "ab", 0)
		l.sync()
		l.append(2, "", 1)
		d.d.Crash(0, torn)
		l.dead()
		both := append(record(0, 1, []byte("ab")), record(1, 2, nil)...)
		left := string(both[:20+torn]) + strings.Repeat("\x00", 40-torn)
		d.is(0, left, left)
		m := d.open()
		m.is([]int{1: 22, 2: 4}[want], []api.Record{rec(0, 1, "ab"), rec(1, 2, "")}[:want]...)
		if want == 1 {
			left = left[:20] + strings.Repeat("\x00", 40)
		}
		d.is(0, left, left)
	}
}

// The chapter's third example.
func TestExample3(t *testing.T) {
	if d, e := journal.NewDisk(0); d != nil || e != sizeErr {
		t.Errorf("NewDisk(0): %d", e)
	}
	zeros(t, 17).open().is(-1)
}

// The chapter's fourth example: how a record lies on the disk.
func TestExample4(t *testing.T) {
	d := zeros(t, 60)
	l := d.open()
	l.append(1, "ab", 0)
	head := "\x00\x00\x00\x03\x00\x00\x00\x00\x00\x00\x00\x00\x01ab"
	d.read(0, 15, head, api.OK)
	d.read(19, 1, "\xa5", api.OK)
	d.read(0, 20, string(record(0, 1, []byte("ab"))), api.OK)
	d.read(20, 40, strings.Repeat("\x00", 40), api.OK)
}

// A record's numbers stand highest byte first, in all of their bytes.
func TestForm(t *testing.T) {
	d := zeros(t, 1<<24)
	l := d.open()
	at := 0
	put := func(kind byte, body string) {
		t.Helper()
		number := l.l.Len()
		l.append(kind, body, number)
		want := record(number, kind, []byte(body))
		d.read(at, len(want), string(want), api.OK)
		at += len(want)
	}
	put(255, strings.Repeat("\xa5", 65536))
	put(1, strings.Repeat("x", 258))
	put(128, "\x00")
	// what each look at the disk costs is left out here: it has far too many bytes
	for l.l.Len() < 65539 {
		if _, e := l.l.Append(9, nil); e != api.OK {
			t.Fatal("Append", e)
		}
		at += 18
	}
	number := l.l.Len()
	if n, e := l.l.Append(7, []byte("far")); n != number || e != api.OK {
		t.Errorf("Append: %d, %d", n, e)
	}
	want := string(record(65539, 7, []byte("far")))
	if b, e := d.d.Read(at, 21); string(b) != want || e != api.OK {
		t.Errorf("%x, want %x", b, want)
	}
	before := l.l.Records()
	m := d.open()
	if !sameRecords(m.l.Records(), before) || m.l.Len() != 65540 || m.l.Room() != l.l.Room() {
		t.Error("other records are found than were put")
	}
}

// P21.1: a nil disk.
func TestOpenNil(t *testing.T) {
	if l, e := journal.Open(nil); l != nil || e != sizeErr {
		t.Errorf("Open(nil): %v, %d", l != nil, e)
	}
}

// P21.1, P21.3: disks of zeros have no records; those of less than 18 bytes have no room.
func TestOpenZeros(t *testing.T) {
	for size := 1; size <= 60; size++ {
		d := zeros(t, size)
		l := d.open()
		l.is(size - 18)
		d.is(0, strings.Repeat("\x00", size), strings.Repeat("\x00", size))
		if size < 18 {
			l.refuse(1, "", fullErr)
		} else {
			l.append(1, strings.Repeat("x", size-18), 0)
		}
	}
	for _, x := range []struct{ size, room int }{
		{18 + 65535, 65535}, {18 + 65536, 65536}, {18 + 65537, 65536}, {1 << 24, 65536},
	} {
		zeros(t, x.size).open().is(x.room)
	}
}

// finds opens a disk of these bytes and awaits these records, and zeros behind them.
func finds(t *testing.T, image []byte, want ...api.Record) log {
	t.Helper()
	d := loaded(t, image)
	l := d.open()
	end := 0
	for _, r := range want {
		end += 18 + len(r.Body)
	}
	l.is(min(len(image)-end-18, 65536), want...)
	left := string(image[:end]) + strings.Repeat("\x00", len(image)-end)
	if d.look() != (look{len(image), 0, left, left}) {
		t.Error("behind the records not all is 0, or the records are not as they were")
	}
	return l
}

// behind is b on a disk with so many zeros behind it.
func behind(b []byte, n int) []byte { return append(append([]byte{}, b...), make([]byte, n)...) }

// P21.1: right records are found, wherever the disk ends.
func TestOpenRight(t *testing.T) {
	b := row("ab", "", "cde")
	for _, n := range []int{0, 1, 17, 18, 40} {
		l := finds(t, behind(b, n), recs("ab", "", "cde")...)
		l.refuse(1, strings.Repeat("x", max(0, n-17)), fullErr)
	}
	for cut := range len(b) {
		want := 0
		for _, end := range []int{20, 38} {
			if cut >= end {
				want++
			}
		}
		if cut > 0 {
			finds(t, b[:cut], recs("ab", "")[:want]...)
		}
		finds(t, behind(b[:cut], 60), recs("ab", "")[:want]...)
	}
}

// P21.1: whatever byte of a record is changed, it is right no more, and nor is any behind it.
func TestOpenChanged(t *testing.T) {
	b := row("ab", "", "cde")
	for i := range b {
		want := 2
		if i < 20 {
			want = 0
		} else if i < 38 {
			want = 1
		}
		for x := 1; x < 256; x++ {
			c := behind(b, 30)
			c[i] ^= byte(x)
			finds(t, c, recs("ab", "")[:want]...)
		}
	}
}

// P21.1: records whose sum is right, and which are none by one thing alone.
func TestOpenWrong(t *testing.T) {
	ok := record(0, 1, []byte("ab"))
	for name, bad := range map[string][]byte{
		"length of less":      rawRecord(2, 1, 2, []byte("cd")),
		"length of more":      rawRecord(4, 1, 2, []byte("cd")),
		"length of 0":         rawRecord(0, 1, 2, []byte("cd")),
		"length of 0, bare":   rawRecord(0, 1, 2, nil),
		"length of -1":        rawRecord(1<<32-1, 1, 2, []byte("cd")),
		"length of 2^31":      rawRecord(1<<31, 1, 2, nil),
		"length, high bytes":  rawRecord(1<<24+3, 1, 2, []byte("cd")),
		"number of the first": record(0, 2, []byte("cd")),
		"number of the third": record(2, 2, []byte("cd")),
		"number, high byte":   record(1<<56+1, 2, []byte("cd")),
		"number, 2^32":        record(1<<32+1, 2, []byte("cd")),
		"number, greatest":    record(^uint64(0), 2, []byte("cd")),
		"kind 0":              record(1, 0, []byte("cd")),
		"kind 0, bare":        record(1, 0, nil),
		"one 0 too many":      append([]byte{0}, record(1, 2, []byte("cd"))...),
	} {
		finds(t, behind(append(ok, bad...), 40), rec(0, 1, "ab"))
		finds(t, append(ok, bad...), rec(0, 1, "ab"))
		// a right record behind a place where there is none
		finds(t, append(append(ok[:20:20], bad...), record(1, 2, nil)...), rec(0, 1, "ab"))
		finds(t, append(append(ok[:20:20], bad...), record(2, 2, nil)...), rec(0, 1, "ab"))
		if t.Failed() {
			t.Fatal(name)
		}
	}
	for name, bad := range map[string][]byte{"number 1": record(1, 1, nil), "kind 0": record(0, 0, nil), "length of 0": rawRecord(0, 0, 1, nil)} {
		finds(t, behind(bad, 40))
		if t.Failed() {
			t.Fatal(name)
		}
	}
}

// P21.1: a kind may be any but 0, and a body has any bytes up to MaxRecord.
func TestOpenEdges(t *testing.T) {
	for kind := 1; kind < 256; kind++ {
		finds(t, behind(record(0, byte(kind), nil), 3), rec(0, byte(kind), ""))
	}
	long := strings.Repeat("\x00", 65535)
	for _, n := range []int{0, 1, 18, 70000} {
		finds(t, behind(row(long), n), recs(long)...)
		finds(t, behind(row(long+"\x01", "x"), n), recs(long+"\x01", "x")...)
		finds(t, behind(row(long+"\x00\x01", "x"), n))
		finds(t, behind(row("x", long+"\x00\x01"), n), recs("x")...)
	}
	for _, n := range []int{1, 2, 18, 65554} {
		b := row("x", long+"\x01")
		finds(t, b[:len(b)-n], recs("x")...)
	}
}

// P21.1: a right record that stands behind a place where there is none is no record, and is not left on the disk.
func TestOpenGap(t *testing.T) {
	b := row("ab", "c")
	for gap := 1; gap < 40; gap++ {
		c := append(behind(b[:20], gap), b[20:]...)
		l := finds(t, c, rec(0, 1, "ab"))
		finds(t, append(make([]byte, gap), b...))
		if gap >= 18 {
			// were it left there, a record that fills the gap would bring it back
			l.append(5, strings.Repeat("x", gap-18), 1)
			l.d.open().is(len(c)-20-gap-18, rec(0, 1, "ab"), rec(1, 5, strings.Repeat("x", gap-18)))
		}
	}
}

// P21.1: one byte that is not 0, wherever it is, is written over.
func TestOpenRest(t *testing.T) {
	b := row("ab", "")
	for i := range 50 {
		for _, x := range []byte{1, 0x80, 0xa5, 0xff} {
			c := behind(b, 50)
			c[38+i] = x
			finds(t, c, recs("ab", "")...)
		}
	}
	for i := range 10 {
		c := make([]byte, 10)
		c[i] = 1
		finds(t, c)
	}
}

// P21.1: Open looks at what was written last, and syncs the disk, whoever wrote there.
func TestOpenSyncs(t *testing.T) {
	first := record(0, 1, []byte("ab"))
	d := zeros(t, 40)
	d.write(0, string(first[:7]), api.OK)
	d.write(7, string(first[7:]), api.OK)
	d.open().is(2, rec(0, 1, "ab"))
	want := string(behind(first, 20))
	d.is(0, want, want)
	d.d.Crash(0, 0)
	d.is(0, want, want)

	// what is safe, but was written over, is no record
	d.write(19, "\x00", api.OK)
	d.open().is(22)
	d.is(0, strings.Repeat("\x00", 40), strings.Repeat("\x00", 40))

	// nothing to be written, and yet a write that waits
	d.write(30, "\x00\x00", api.OK)
	d.open().is(22)
	d.write(30, "x", api.OK)
	d.write(30, "\x00", api.OK)
	d.open().is(22)
	d.is(0, strings.Repeat("\x00", 40), strings.Repeat("\x00", 40))
}

// P21.1: disks with any bytes, and records with any bytes behind them.
func TestOpenAny(t *testing.T) {
	d := dice(21)
	for range 3000 {
		var image []byte
		var want []api.Record
		for i := range d.below(4) {
			r := api.Record{Number: uint64(i), Kind: byte(1 + d.below(255)), Body: d.bytes(d.below(30))}
			want = append(want, r)
			image = append(image, record(r.Number, r.Kind, r.Body)...)
		}
		n := 1 + d.below(60)
		if d.below(2) == 0 {
			image = append(image, d.bytes(n)...)
		} else {
			// a beginning as that of a record
			image = append(image, record(uint64(len(want)), byte(1+d.below(3)), d.bytes(n))[:n+d.below(18)]...)
		}
		finds(t, image, want...)
	}
}
