package journal_test

import (
	"bytes"
	"slices"
	"testing"

	"braid/api"
	"braid/journal"
)

// spare is b with room behind it that is full of x.
func spare(b []byte, x byte) []byte {
	return append(slices.Clone(b), bytes.Repeat([]byte{x}, 40)...)[:len(b)]
}

func overwrite[T any](l []T, x T) {
	l = l[:cap(l)]
	for i := range l {
		l[i] = x
	}
}

// hand hands bytes in, awaits that they and their spare room stay as they are, and spoils them behind the call.
func hand(t *testing.T, text string, call func(p []byte)) {
	t.Helper()
	p := spare([]byte(text), 0xee)
	kept := slices.Clone(p[:cap(p)])
	call(p)
	if !bytes.Equal(p[:cap(p)], kept) {
		t.Errorf("%q was changed", text)
	}
	overwrite(p, 0x55)
}

// 0.4: bytes that are handed in are neither changed nor kept, whatever is called behind.
func TestHandedIn(t *testing.T) {
	image := append(row("ab", "c"), make([]byte, 61)...)
	var d disk
	hand(t, string(image), func(p []byte) {
		d = loaded(t, p)
		x, _ := journal.LoadDisk(p)
		x.Write(0, []byte("xyz"))
		x.Sync()
		journal.Open(x)
		d.d, _ = journal.LoadDisk(p)
	})
	d.is(0, string(image), string(image))
	var l log
	hand(t, "defgh", func(p []byte) {
		d.d.Write(90, p)
		d.write(91, "X", api.OK)
	})
	want := string(image[:90]) + "dXfgh" + string(image[95:])
	d.is(2, want, string(image))
	d.d.Crash(1, 0)
	want = string(image[:90]) + "defgh" + string(image[95:])
	d.is(0, want, want)
	hand(t, "ijk", func(p []byte) { d.d.Write(80, p) })
	d.d.Crash(0, 2)
	want = want[:80] + "ij" + want[82:]
	d.is(0, want, want)
	hand(t, "l", func(p []byte) { d.d.Write(81, p) })
	d.d.Sync()
	want = want[:81] + "l" + want[82:]
	d.is(0, want, want)

	l = d.open()
	hand(t, "hello", func(p []byte) { l.l.Append(7, p) })
	hand(t, "", func(p []byte) { l.l.Append(8, p) })
	l.is(2, rec(0, 1, "ab"), rec(1, 2, "c"), rec(2, 7, "hello"), rec(3, 8, ""))
	hand(t, string(make([]byte, 65537)), func(p []byte) { l.l.Append(8, p) })
	hand(t, "too long", func(p []byte) { l.l.Append(8, p) })
	l.sync()
	d.open().is(2, rec(0, 1, "ab"), rec(1, 2, "c"), rec(2, 7, "hello"), rec(3, 8, ""))
}

// 0.4: bytes and lists that are handed out are new memory, spare room too.
func TestHandedOut(t *testing.T) {
	d := loaded(t, row("ab", "", "cd"), make([]byte, 40))
	l := d.open()
	l.append(9, "efg", 3)
	before := d.look()
	for _, x := range []struct{ at, n int }{{0, 99}, {0, 100}, {20, 10}, {50, 0}, {100, 0}, {99, 1}} {
		b, e := d.d.Read(x.at, x.n)
		if e == api.OK {
			overwrite(b, 0x77)
		}
		d.is(before.pending, before.now, before.safe)
	}
	overwrite(d.d.Image(), 0x77)
	d.is(before.pending, before.now, before.safe)

	want := append(recs("ab", "", "cd"), rec(3, 9, "efg"))
	got, other := l.l.Records(), l.l.Records()
	for i := range got {
		overwrite(got[i].Body, 0x77)
		// no two lists of an answer share memory either
		for j := i + 1; j < len(got); j++ {
			if !sameRecord(got[j], want[j]) {
				t.Errorf("record %d has memory of record %d", j, i)
			}
		}
	}
	overwrite(got, rec(99, 99, "x"))
	if !sameRecords(other, want) {
		t.Errorf("%v became %v", want, other)
	}
	l.is(d.d.Size()-20-18-20-21-18, want...)
	d.is(before.pending, before.now, before.safe)
	d.d.Crash(1, 0)
	d.is(0, before.now, before.now)
}

// 0.4: what was given stays as it is, whatever comes behind it.
func TestGivenStays(t *testing.T) {
	d := dice(5)
	b := newBoth(t, make([]byte, 300))
	b.open()
	var got, kept [][]byte
	var lists, listsKept [][]api.Record
	for range 400 {
		d.call(b)
		x, _ := b.d.d.Read(0, 300)
		y := b.d.d.Image()
		got = append(got, x, y)
		kept = append(kept, slices.Clone(x), slices.Clone(y))
		l := b.logs[len(b.logs)-1].l.Records()
		lists = append(lists, l)
		listsKept = append(listsKept, deep(l))
	}
	if !slices.EqualFunc(got, kept, bytes.Equal) || !slices.EqualFunc(lists, listsKept, sameRecords) {
		t.Error("what was handed out has changed")
	}
}

func deep(l []api.Record) []api.Record {
	c := slices.Clone(l)
	for i := range c {
		c[i].Body = slices.Clone(c[i].Body)
	}
	return c
}
