package journal_test

import (
	"bytes"
	"encoding/binary"
	"fmt"
	"hash/crc32"
	"slices"
	"testing"

	"braid/api"
	"braid/journal"
)

const (
	sizeErr  = api.ErrDiskSize
	placeErr = api.ErrDiskPlace
	kindErr  = api.ErrLogKind
	longErr  = api.ErrLogLong
	fullErr  = api.ErrLogFull
	deadErr  = api.ErrLogDead
)

// dice gives the same row of numbers in every run.
type dice uint64

func (d *dice) below(n int) int {
	*d = *d*6364136223846793005 + 1442695040888963407
	return int(uint64(*d) >> 33 % uint64(n))
}

// one is one of these.
func (d *dice) one(of ...int) int { return of[d.below(len(of))] }

func (d *dice) bytes(n int) []byte {
	b := make([]byte, n)
	for i := range b {
		b[i] = byte(d.below(256))
	}
	return b
}

// record is a record's bytes by the chapter's words, its sum by Go's library.
func record(number uint64, kind byte, body []byte) []byte {
	return rawRecord(uint32(len(body)+1), number, kind, body)
}

// rawRecord is one whose length may be wrong, but whose sum is right.
func rawRecord(length uint32, number uint64, kind byte, body []byte) []byte {
	b := binary.BigEndian.AppendUint32(nil, length)
	b = binary.BigEndian.AppendUint64(b, number)
	b = append(append(b, kind), body...)
	b = binary.BigEndian.AppendUint32(b, crc32.ChecksumIEEE(b))
	return append(b, 0xa5)
}

// row is the bytes of records of these bodies, the first one of kind 1, each next one of the next kind.
func row(bodies ...string) []byte {
	var b []byte
	for i, body := range bodies {
		b = append(b, record(uint64(i), byte(i+1), []byte(body))...)
	}
	return b
}

func rec(number uint64, kind byte, body string) api.Record {
	return api.Record{Number: number, Kind: kind, Body: []byte(body)}
}

// recs is the records of row.
func recs(bodies ...string) []api.Record {
	var l []api.Record
	for i, body := range bodies {
		l = append(l, rec(uint64(i), byte(i+1), body))
	}
	return l
}

func sameRecord(a, b api.Record) bool {
	return a.Number == b.Number && a.Kind == b.Kind && bytes.Equal(a.Body, b.Body)
}

func sameRecords(a, b []api.Record) bool { return slices.EqualFunc(a, b, sameRecord) }

// disk is one whose answers are held against what is awaited. A call that answers an error must leave it as it was.
type disk struct {
	t *testing.T
	d *journal.Disk
}

func zeros(t *testing.T, size int) disk {
	t.Helper()
	d, e := journal.NewDisk(size)
	if e != api.OK || d == nil {
		t.Fatalf("NewDisk(%d): %d", size, e)
	}
	return disk{t, d}
}

func loaded(t *testing.T, parts ...[]byte) disk {
	t.Helper()
	image := slices.Concat(parts...)
	d, e := journal.LoadDisk(image)
	if e != api.OK || d == nil {
		t.Fatalf("LoadDisk of %d bytes: %d", len(image), e)
	}
	return disk{t, d}
}

// look is all that can be asked of a disk.
type look struct {
	size, pending int
	now, safe     string
}

// String is short enough to be told.
func (l look) String() string {
	const most = 200
	return fmt.Sprintf("%d bytes, %d pending, %x, safe %x", l.size, l.pending, l.now[:min(len(l.now), most)], l.safe[:min(len(l.safe), most)])
}

func (c disk) look() look {
	c.t.Helper()
	now, e := c.d.Read(0, c.d.Size())
	if e != api.OK {
		c.t.Fatalf("Read of all: %d", e)
	}
	return look{c.d.Size(), c.d.Pending(), string(now), string(c.d.Image())}
}

// is holds all that can be asked against this.
func (c disk) is(pending int, now, safe string) {
	c.t.Helper()
	if got, want := c.look(), (look{len(now), pending, now, safe}); got != want {
		c.t.Errorf("the disk is %v, want %v", got, want)
	}
}

func (c disk) write(at int, text string, want api.Errno) {
	c.t.Helper()
	before := c.look()
	if e := c.d.Write(at, []byte(text)); e != want {
		c.t.Errorf("Write(%d, %d bytes): %d, want %d", at, len(text), e, want)
	}
	if want != api.OK && c.look() != before {
		c.t.Errorf("Write(%d, %d bytes) has changed something", at, len(text))
	}
}

func (c disk) read(at, n int, text string, want api.Errno) {
	c.t.Helper()
	before := c.look()
	if b, e := c.d.Read(at, n); e != want || string(b) != text {
		c.t.Errorf("Read(%d, %d): %q, %d, want %q, %d", at, n, b, e, text, want)
	}
	if c.look() != before {
		c.t.Errorf("Read(%d, %d) has changed something", at, n)
	}
}

// open opens the log, which must leave nothing pending.
func (c disk) open() log {
	c.t.Helper()
	l, e := journal.Open(c.d)
	if e != api.OK || l == nil {
		c.t.Fatalf("Open: %d", e)
	}
	if c.d.Pending() != 0 {
		c.t.Errorf("Open leaves %d pending", c.d.Pending())
	}
	return log{c.t, l, c}
}

// log is one whose answers are held against what is awaited. A call that answers an error must leave it and its disk as they were.
type log struct {
	t *testing.T
	l *journal.Log
	d disk
}

// is holds all that can be asked of a log against these records and this room.
func (c log) is(room int, want ...api.Record) {
	c.t.Helper()
	if got := c.l.Records(); !sameRecords(got, want) {
		c.t.Errorf("Records: %d, %v, want %d, %v", len(got), got, len(want), want)
	}
	if c.l.Len() != uint64(len(want)) {
		c.t.Errorf("Len: %d, want %d", c.l.Len(), len(want))
	}
	if c.l.Room() != room {
		c.t.Errorf("Room: %d, want %d", c.l.Room(), room)
	}
}

// same holds that a call has changed nothing.
func (c log) same(call func(), what string) {
	c.t.Helper()
	d, records, room := c.d.look(), c.l.Records(), c.l.Room()
	call()
	c.is(room, records...)
	if c.d.look() != d {
		c.t.Errorf("%s has changed the disk", what)
	}
}

// append awaits the number, and just one write more.
func (c log) append(kind byte, body string, number uint64) {
	c.t.Helper()
	pending := c.d.d.Pending()
	if n, e := c.l.Append(kind, []byte(body)); n != number || e != api.OK {
		c.t.Errorf("Append(%d, %d bytes): %d, %d, want %d", kind, len(body), n, e, number)
	}
	if c.d.d.Pending() != pending+1 {
		c.t.Errorf("Append(%d, %d bytes): %d pending became %d", kind, len(body), pending, c.d.d.Pending())
	}
}

// fill appends the records of row.
func (c log) fill(bodies ...string) {
	c.t.Helper()
	for i, body := range bodies {
		c.append(byte(i+1), body, uint64(i))
	}
}

func (c log) refuse(kind byte, body string, want api.Errno) {
	c.t.Helper()
	c.same(func() {
		if n, e := c.l.Append(kind, []byte(body)); n != 0 || e != want {
			c.t.Errorf("Append(%d, %d bytes): %d, %d, want %d", kind, len(body), n, e, want)
		}
	}, "Append")
}

func (c log) sync() {
	c.t.Helper()
	if e := c.l.Sync(); e != api.OK {
		c.t.Errorf("Sync: %d", e)
	}
	if d := c.d.look(); d.pending != 0 || d.now != d.safe {
		c.t.Errorf("Sync leaves %d pending", d.pending)
	}
}

// dead awaits that each call that may say so says that the log is dead.
func (c log) dead() {
	c.t.Helper()
	c.refuse(1, "", deadErr)
	c.same(func() {
		if e := c.l.Sync(); e != deadErr {
			c.t.Errorf("Sync: %d, want %d", e, deadErr)
		}
	}, "Sync")
}
