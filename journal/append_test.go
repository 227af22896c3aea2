package journal_test

import (
	"math"
	"strings"
	"testing"

	"braid/api"
)

// P21.2: a log is dead behind any crash of its disk, whatever was lost.
func TestDeadByCrash(t *testing.T) {
	for _, n := range []int{math.MinInt, -1, 0, 1, 2, math.MaxInt} {
		for appended := range 3 {
			d := zeros(t, 100)
			l := d.open()
			l.fill([]string{"ab", "c"}[:appended]...)
			want := l.l.Records()
			room := l.l.Room()
			d.d.Crash(n, n)
			l.dead()
			l.is(room, want...)
			l.dead()
			d.d.Crash(0, 0)
			l.dead()
			m := d.open()
			l.dead()
			m.sync()
			m.append(9, "new", m.l.Len())
			l.is(room, want...)
		}
	}
}

// P21.2: a log is dead when its disk is opened again; the one that was opened last is not.
func TestDeadByOpen(t *testing.T) {
	d := zeros(t, 100)
	l := d.open()
	l.append(1, "ab", 0)
	m := d.open()
	m.is(62, rec(0, 1, "ab"))
	m.append(2, "c", 1)
	l.dead() // a Sync of it would make the second record safe
	if d.d.Pending() != 1 {
		t.Errorf("Pending: %d", d.d.Pending())
	}
	l.is(62, rec(0, 1, "ab"))
	m.sync()
	n := d.open()
	m.dead()
	l.dead()
	n.append(3, "", 2)
	m.is(43, rec(0, 1, "ab"), rec(1, 2, "c"))
	n.is(25, rec(0, 1, "ab"), rec(1, 2, "c"), rec(2, 3, ""))
}

// P21.2: another disk's crash, a Sync or a Write make no log dead.
func TestAlive(t *testing.T) {
	d, other := zeros(t, 100), zeros(t, 100)
	l, m := d.open(), other.open()
	other.d.Crash(0, 0)
	other.open()
	m.dead()
	l.append(1, "", 0)
	d.d.Sync()
	d.write(99, "x", api.OK)
	d.write(100, "", api.OK)
	d.write(101, "", placeErr)
	d.read(50, 51, "", placeErr)
	d.d.Image()
	l.append(1, "", 1)
	l.sync()
}

// P21.2: where several errors apply, the first one of the chapter is answered.
func TestAppendErrors(t *testing.T) {
	long, most := strings.Repeat("x", 65537), strings.Repeat("x", 65536)
	small, great := zeros(t, 40), zeros(t, 70000)
	l, m := small.open(), great.open()

	l.refuse(0, "", kindErr)
	l.refuse(0, "ab", kindErr)
	l.refuse(0, long, kindErr)
	l.refuse(0, most, kindErr)
	l.refuse(1, long, longErr)
	l.refuse(255, long, longErr)
	l.refuse(1, strings.Repeat("x", 1<<20), longErr)
	l.refuse(1, most, fullErr)
	l.refuse(1, strings.Repeat("x", 23), fullErr)
	l.append(1, strings.Repeat("x", 22), 0)
	l.refuse(1, "", fullErr)
	l.refuse(1, long, longErr)
	l.refuse(0, long, kindErr)
	l.sync()

	m.refuse(0, long, kindErr)
	m.refuse(1, long, longErr)
	m.append(1, most, 0)
	m.refuse(1, most, fullErr)
	m.sync()

	small.d.Crash(0, 0)
	great.open()
	for _, x := range []log{l, m} {
		for _, kind := range []byte{0, 1} {
			for _, body := range []string{"", "ab", most, long} {
				x.refuse(kind, body, deadErr)
			}
		}
	}
}

// P21.2: a record fills the disk to its last byte, and not one more.
func TestAppendFills(t *testing.T) {
	for size := 18; size < 120; size++ {
		for body := range 12 {
			d := zeros(t, size)
			l := d.open()
			text := strings.Repeat("\xff", body)
			var want []api.Record
			left := size
			for left >= 18+body {
				l.append(3, text, uint64(len(want)))
				want = append(want, rec(uint64(len(want)), 3, text))
				left -= 18 + body
				l.is(left-18, want...)
			}
			l.refuse(3, text, fullErr)
			if left >= 18 {
				l.append(4, text[:left-18], uint64(len(want)))
				want = append(want, rec(uint64(len(want)), 4, text[:left-18]))
				l.is(-18, want...)
				l.refuse(1, "", fullErr)
				left = 0
			}
			l.sync()
			d.open().is(left-18, want...)
		}
	}
}

// P21.2: the greatest body, on disks that have just room for it and just not; and the greatest disk, full of such.
func TestAppendLong(t *testing.T) {
	most := strings.Repeat("y", 65536)
	zeros(t, 18+65535).open().refuse(1, most, fullErr)
	for _, size := range []int{18 + 65536, 18 + 65537, 2*(18+65536) - 1} {
		d := zeros(t, size)
		l := d.open()
		l.refuse(1, most+"y", longErr)
		l.append(1, most, 0)
		l.is(size-2*18-65536, rec(0, 1, most))
		l.refuse(1, most, fullErr)
		l.sync()
		d.open().is(size-2*18-65536, rec(0, 1, most))
	}
	d := zeros(t, 1<<24)
	l := d.open()
	for i := range uint64(255) {
		if l.l.Room() != 65536 {
			t.Fatalf("Room ahead of %d: %d", i, l.l.Room())
		}
		if n, e := l.l.Append(1, []byte(most)); n != i || e != api.OK {
			t.Fatalf("Append: %d, %d", n, e)
		}
	}
	room := 1<<24 - 255*65554 - 18
	if n, e := l.l.Append(1, []byte(most)); n != 0 || e != fullErr || l.l.Room() != room {
		t.Errorf("Append: %d, %d; Room %d, want %d", n, e, l.l.Room(), room)
	}
	if n, e := l.l.Append(1, []byte(most[:room])); n != 255 || e != api.OK || l.l.Room() != -18 {
		t.Errorf("Append: %d, %d; Room %d", n, e, l.l.Room())
	}
}

// P21.2: a record is one write, and is safe behind a Sync of the log or of its disk.
func TestAppendOneWrite(t *testing.T) {
	d := zeros(t, 100)
	l := d.open()
	l.append(1, "ab", 0)
	l.append(2, "c", 1)
	b := string(behind(row("ab", "c"), 61))
	d.is(2, b, strings.Repeat("\x00", 100))
	l.sync()
	d.is(0, b, b)
	l.append(3, "def", 2)
	b2 := string(behind(row("ab", "c", "def"), 40))
	d.is(1, b2, b)
	d.d.Sync()
	d.is(0, b2, b2)
	l.append(4, "", 3)
	d.d.Crash(0, 0)
	d.is(0, b2, b2)
	l.is(4, recs("ab", "c", "def", "")...) // it is dead, and tells what it knows
	l.dead()
	d.open().is(22, recs("ab", "c", "def")...)
}

// P21.2: Sync of the log makes others' writes safe too.
func TestSyncAll(t *testing.T) {
	d := zeros(t, 60)
	l := d.open()
	d.write(59, "x", api.OK)
	l.sync()
	if d.d.Image()[59] != 'x' {
		t.Error("a write of another one is not safe")
	}
	l.sync()
}

// P21.3: what others have written on the disk the log does not know; it goes on behind its own records.
func TestOthersWrite(t *testing.T) {
	d := zeros(t, 100)
	l := d.open()
	l.append(1, "ab", 0)
	l.sync()
	d.write(0, strings.Repeat("\xee", 100), api.OK)
	l.is(62, rec(0, 1, "ab"))
	l.append(2, "c", 1)
	l.is(43, rec(0, 1, "ab"), rec(1, 2, "c"))
	d.read(20, 19, string(record(1, 2, []byte("c"))), api.OK)
	d.read(0, 20, strings.Repeat("\xee", 20), api.OK)
	d.read(39, 61, strings.Repeat("\xee", 61), api.OK)
	d.write(0, string(row("ab", "other", "more")), api.OK)
	l.is(43, rec(0, 1, "ab"), rec(1, 2, "c"))
	m := d.open()
	m.is(17, recs("ab", "other", "more")...)
	l.is(43, rec(0, 1, "ab"), rec(1, 2, "c"))
	d.d.Crash(0, 0)
	d.write(0, strings.Repeat("\x00", 100), api.OK)
	m.is(17, recs("ab", "other", "more")...)
	d.open().is(82)
}
