package pcap_test

import (
	"bytes"
	"slices"
	"testing"

	"braid/api"
	"braid/pcap"
)

// spare is b with room behind it that is full of x.
func spare(b []byte, x byte) []byte {
	return append(slices.Clone(b), bytes.Repeat([]byte{x}, 40)...)[:len(b)]
}

// overwrite fills a list, and its spare room.
func overwrite[T any](l []T, x T) {
	l = l[:cap(l)]
	for i := range l {
		l[i] = x
	}
}

// deepCapture is c with memory of its own.
func deepCapture(c api.Capture) api.Capture {
	c.Packets = slices.Clone(c.Packets)
	for i := range c.Packets {
		c.Packets[i].Data = slices.Clone(c.Packets[i].Data)
	}
	return c
}

// spareCapture is c with spare room everywhere.
func spareCapture(c api.Capture) api.Capture {
	c = deepCapture(c)
	for i := range c.Packets {
		c.Packets[i].Data = spare(c.Packets[i].Data, 0xee)
	}
	c.Packets = append(c.Packets, pack(1, 2, "beyond"))[:len(c.Packets)]
	return c
}

// sameSpare tells whether two are the same, their spare room too.
func sameSpare(a, b api.Capture) bool {
	whole := func(a, b api.Packet) bool {
		return samePacket(a, b) && bytes.Equal(a.Data[:cap(a.Data)][len(a.Data):], b.Data[:cap(b.Data)][len(b.Data):])
	}
	n := len(a.Packets)
	return sameCapture(a, b) && slices.EqualFunc(a.Packets, b.Packets, whole) && slices.EqualFunc(a.Packets[n:n+1], b.Packets[n:n+1], samePacket)
}

// events is three that stand in a capture, and one that does not.
func events() []api.Event {
	return []api.Event{ev(1, 2, "ab"), ev(2, 61005, ""), {What: 9, Bytes: []byte("out")}, ev(3, 4, "cde")}
}

// 0.4: of Read, of files that are taken and refused.
func TestMemoryOfRead(t *testing.T) {
	for _, f := range forms() {
		want := f.capture(9, 8, three()...)
		for _, b := range [][]byte{f.file(want), append(f.file(want), 1, 2, 3), append(f.file(want), f.numbers(1, most, 1, 1)...), append(f.file(want), f.numbers(1, 1, 99, 1)...), f.file(want)[:20], f.head(0, 8), make([]byte, 30)} {
			handed := spare(b, 0xee)
			before := slices.Clone(handed[:cap(handed)])
			c, n, e := pcap.Read(handed)
			other, _, _ := pcap.Read(handed)
			if !bytes.Equal(handed[:cap(handed)], before) {
				t.Errorf("what was handed in has changed: %x", handed)
			}
			if n > 0 && !sameCapture(c, want) {
				t.Errorf("Read: %s, %d, %d", told(c), n, e)
			}
			overwrite(handed, 0x55)
			apart(t, c, want)
			if n > 0 && !sameCapture(other, want) {
				t.Errorf("what was handed out has changed: %s", told(other))
			}
		}
	}
}

// apart awaits that no two packets of a capture share memory, and spoils it.
func apart(t *testing.T, c, want api.Capture) {
	t.Helper()
	for i, p := range c.Packets {
		if !samePacket(p, want.Packets[i]) {
			t.Errorf("packet %d is %s, want %s", i, told(p), told(want.Packets[i]))
		}
		overwrite(p.Data, 0x77)
	}
	overwrite(c.Packets, pack(99, 99, "other"))
}

// 0.4: of Write, taken and refused.
func TestMemoryOfWrite(t *testing.T) {
	for _, f := range forms() {
		good := f.capture(9, 8, three()...)
		late, long, none := deepCapture(good), deepCapture(good), deepCapture(good)
		late.Packets[1].Part, long.Packets[2].Len, none.Snap = most, 0, 0
		for _, x := range []api.Capture{good, late, long, none} {
			c := spareCapture(x)
			before := spareCapture(x)
			b, _, e := pcap.Write(c)
			other, _, _ := pcap.Write(c)
			overwrite(other, 0x77)
			if !sameSpare(c, before) {
				t.Errorf("what was handed in has changed: %s", told(c))
			}
			for i := range c.Packets {
				overwrite(c.Packets[i].Data, 0x55)
			}
			overwrite(c.Packets, api.Packet{})
			if e == api.OK && !bytes.Equal(b, f.file(good)) {
				t.Errorf("what was handed out has changed: %x", b)
			}
		}
	}
}

// 0.4: of Of.
func TestMemoryOfOf(t *testing.T) {
	l := append(events(), ev(0, 0, "beyond"))
	for i := range l {
		l[i].Bytes = spare(l[i].Bytes, 0xee)
	}
	l = l[:4]
	want := own(false)
	for _, e := range kept(events()) {
		want.Packets = append(want.Packets, packetByWords(e, false))
	}
	c, other := pcap.Of(l), pcap.Of(l)
	for i, e := range append(events(), ev(0, 0, "beyond")) {
		got := l[:5][i]
		if !sameEvent(got, e) || !bytes.Equal(got.Bytes[:cap(got.Bytes)], spare(e.Bytes, 0xee)[:cap(got.Bytes)]) {
			t.Errorf("event %d that was handed in has changed: %s", i, told(got))
		}
	}
	for i := range l {
		overwrite(l[i].Bytes, 0x55)
	}
	overwrite(l, api.Event{})
	apart(t, c, want)
	if !sameCapture(other, want) {
		t.Errorf("what was handed out has changed: %s", told(other))
	}
}

// 0.4: of Events, taken and refused.
func TestMemoryOfEvents(t *testing.T) {
	for _, nano := range []bool{false, true} {
		good := own(nano)
		for _, e := range kept(events()) {
			good.Packets = append(good.Packets, packetByWords(e, nano))
		}
		bad, link := deepCapture(good), deepCapture(good)
		bad.Packets[2].Sec, link.Link = most, 1
		for _, x := range []api.Capture{good, bad, link} {
			c, before := spareCapture(x), spareCapture(x)
			l, _, e := pcap.Events(c)
			other, _, _ := pcap.Events(c)
			if !sameSpare(c, before) {
				t.Errorf("what was handed in has changed: %s", told(c))
			}
			for i := range c.Packets {
				overwrite(c.Packets[i].Data, 0x55)
			}
			overwrite(c.Packets, api.Packet{})
			if e != api.OK {
				continue
			}
			for i, want := range kept(events()) {
				if !sameEvent(l[i], want) {
					t.Errorf("event %d is %s, want %s", i, told(l[i]), told(want))
				}
				overwrite(l[i].Bytes, 0x77)
			}
			overwrite(l, api.Event{})
			if !slices.EqualFunc(other, kept(events()), sameEvent) {
				t.Errorf("what was handed out has changed: %s", told(other))
			}
		}
	}
}

// 0.1: no call panics, whatever it is given; 0.3: each answers the same again.
func TestAnything(t *testing.T) {
	d := dice(9)
	for range 5000 {
		c := d.capture()
		c.Snap, c.Link = uint32(d.one(0, 1, 9, api.MaxSnap, most)), uint32(d.one(0, 147, 147, most))
		for i := range c.Packets {
			p := &c.Packets[i]
			p.Part, p.Len = uint32(d.one(0, int(p.Part), most)), uint32(d.one(0, int(p.Len), len(p.Data), most))
			if d.below(3) == 0 {
				p.Data = nil
			}
		}
		b, n, e := pcap.Write(c)
		b2, n2, e2 := pcap.Write(deepCapture(c))
		if !bytes.Equal(b, b2) || n != n2 || e != e2 {
			t.Errorf("Write(%s) answers in two ways", told(c))
		}
		l, n, e := pcap.Events(c)
		l2, n2, e2 := pcap.Events(deepCapture(c))
		if !slices.EqualFunc(l, l2, sameEvent) || n != n2 || e != e2 {
			t.Errorf("Events(%s) answers in two ways", told(c))
		}
	}
}
