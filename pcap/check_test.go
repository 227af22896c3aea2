package pcap_test

import (
	"bytes"
	"encoding/binary"
	"encoding/hex"
	"fmt"
	"slices"
	"strings"
	"testing"

	"braid/api"
	"braid/pcap"
)

const (
	shortErr   = api.ErrCapShort
	magicErr   = api.ErrCapMagic
	versionErr = api.ErrCapVersion
	snapErr    = api.ErrCapSnap
	timeErr    = api.ErrCapTime
	lengthErr  = api.ErrCapLength
	cutErr     = api.ErrCapCut
	headErr    = api.ErrCapHead
	linkErr    = api.ErrCapLink
)

// most is the greatest number of four bytes.
const most = 1<<32 - 1

// dice gives the same row of numbers in every run.
type dice uint64

func (d *dice) below(n int) int {
	*d = *d*6364136223846793005 + 1442695040888963407
	return int(uint64(*d) >> 33 % uint64(n))
}

// one is one of these.
func (d *dice) one(of ...int) int { return of[d.below(len(of))] }

func (d *dice) bytes(n int) []byte {
	b := make([]byte, n)
	for i := range b {
		b[i] = byte(d.below(256))
	}
	return b
}

func unhex(parts ...string) []byte {
	b, err := hex.DecodeString(strings.ReplaceAll(strings.Join(parts, ""), " ", ""))
	if err != nil {
		panic(err)
	}
	return b
}

// told is short enough to be printed, whatever stands in it.
func told(x any) string {
	s := fmt.Sprintf("%+v", x)
	return s[:min(len(s), 400)]
}

// form is one of the four forms that a file may have.
type form struct {
	little, nano bool
	magic        string
}

func forms() []form {
	return []form{
		{false, false, "a1b2c3d4"},
		{false, true, "a1b23c4d"},
		{true, false, "d4c3b2a1"},
		{true, true, "4d3cb2a1"},
	}
}

func (f form) order() binary.AppendByteOrder {
	if f.little {
		return binary.LittleEndian
	}
	return binary.BigEndian
}

func (f form) second() uint32 {
	if f.nano {
		return 1000000000
	}
	return 1000000
}

// numbers is numbers of four bytes, one behind the other.
func (f form) numbers(l ...uint32) []byte {
	var b []byte
	for _, n := range l {
		b = f.order().AppendUint32(b, n)
	}
	return b
}

// headOf is a head by the chapter's words, whatever its numbers are.
func (f form) headOf(major, minor uint16, one, other, snap, link uint32) []byte {
	b := unhex(f.magic)
	b = f.order().AppendUint16(b, major)
	b = f.order().AppendUint16(b, minor)
	return append(b, f.numbers(one, other, snap, link)...)
}

func (f form) head(snap, link uint32) []byte { return f.headOf(2, 4, 0, 0, snap, link) }

// packet is a packet by the chapter's words, all of whose bytes are kept.
func (f form) packet(p api.Packet) []byte {
	return append(f.numbers(p.Sec, p.Part, uint32(len(p.Data)), p.Len), p.Data...)
}

// file is a capture's file by the chapter's words.
func (f form) file(c api.Capture) []byte {
	b := f.head(c.Snap, c.Link)
	for _, p := range c.Packets {
		b = append(b, f.packet(p)...)
	}
	return b
}

// capture is one of this form.
func (f form) capture(snap, link uint32, l ...api.Packet) api.Capture {
	return api.Capture{Little: f.little, Nano: f.nano, Snap: snap, Link: link, Packets: l}
}

// pack is a packet of a text, all of which is there.
func pack(sec, part uint32, text string) api.Packet {
	return api.Packet{Sec: sec, Part: part, Len: uint32(len(text)), Data: []byte(text)}
}

// three is three packets of 2, 0 and 3 bytes, of which one had more.
func three() []api.Packet {
	return []api.Packet{pack(1, 5, "ab"), {Sec: most, Len: 7}, pack(0x01020304, 999999, "cde")}
}

func samePacket(a, b api.Packet) bool {
	return a.Sec == b.Sec && a.Part == b.Part && a.Len == b.Len && bytes.Equal(a.Data, b.Data)
}

func sameCapture(a, b api.Capture) bool {
	return a.Little == b.Little && a.Nano == b.Nano && a.Snap == b.Snap && a.Link == b.Link && slices.EqualFunc(a.Packets, b.Packets, samePacket)
}

func sameEvent(a, b api.Event) bool {
	return a.What == b.What && a.Side == b.Side && a.Path == b.Path && a.Clock == b.Clock && bytes.Equal(a.Bytes, b.Bytes)
}

// reads awaits of Read a capture, a number and an error.
func reads(t *testing.T, b []byte, want api.Capture, n int, e api.Errno) {
	t.Helper()
	c, gotN, gotE := pcap.Read(b)
	if !sameCapture(c, want) || gotN != n || gotE != e {
		t.Errorf("Read(%s): %s, %d, %d, want %s, %d, %d", told(b), told(c), gotN, gotE, told(want), n, e)
	}
}

// refuses awaits of Read that the head is refused.
func refuses(t *testing.T, b []byte, e api.Errno) {
	t.Helper()
	reads(t, b, api.Capture{}, 0, e)
}

// writes awaits of Write a file.
func writes(t *testing.T, c api.Capture, want []byte) {
	t.Helper()
	b, n, e := pcap.Write(c)
	if !bytes.Equal(b, want) || n != len(c.Packets) || e != api.OK {
		t.Errorf("Write(%s): %s, %d, %d, want %s, %d", told(c), told(b), n, e, told(want), len(c.Packets))
	}
}

// refusesWrite awaits of Write no bytes, a number and an error.
func refusesWrite(t *testing.T, c api.Capture, n int, e api.Errno) {
	t.Helper()
	b, gotN, gotE := pcap.Write(c)
	if len(b) != 0 || gotN != n || gotE != e {
		t.Errorf("Write(%s): %s, %d, %d, want %d, %d", told(c), told(b), gotN, gotE, n, e)
	}
}

// tells awaits of Events these events.
func tells(t *testing.T, c api.Capture, want ...api.Event) {
	t.Helper()
	l, n, e := pcap.Events(c)
	if !slices.EqualFunc(l, want, sameEvent) || n != len(want) || e != api.OK {
		t.Errorf("Events(%s): %s, %d, %d, want %s", told(c), told(l), n, e, told(want))
	}
}

// refusesEvents awaits of Events no events, a number and an error.
func refusesEvents(t *testing.T, what string, c api.Capture, n int, e api.Errno) {
	t.Helper()
	l, gotN, gotE := pcap.Events(c)
	if len(l) != 0 || gotN != n || gotE != e {
		t.Errorf("Events of %s: %s, %d, %d, want %d, %d", what, told(l), gotN, gotE, n, e)
	}
}
