package pcap_test

import (
	"bytes"
	"encoding/binary"
	"math"
	"slices"
	"strconv"
	"testing"

	"braid/api"
	"braid/harness"
	"braid/pcap"
)

// ev is an event of a side, that is sent.
func ev(path int, clock uint64, text string) api.Event {
	return api.Event{What: api.EventSent, Side: api.SideB, Path: path, Clock: clock, Bytes: []byte(text)}
}

// packetByWords is an event's packet, by the chapter's words, and its part in thousand-millionths, if nano.
func packetByWords(e api.Event, nano bool) api.Packet {
	data := []byte{'b', byte(e.What), byte(e.Side), byte(e.Path)}
	data = append(binary.BigEndian.AppendUint64(data, e.Clock), e.Bytes...)
	p := api.Packet{Sec: uint32(e.Clock / 1000 % (1 << 32)), Part: uint32(e.Clock % 1000 * 1000), Len: uint32(len(data)), Data: data}
	if nano {
		p.Part *= 1000
	}
	return p
}

// fits is which events stand in a capture, by the chapter's words.
func fits(e api.Event) bool {
	return slices.Contains([]int{1, 2, 3, 4, 5, 6}, e.What) && slices.Contains([]int{0, 1}, e.Side) && slices.Contains([]int{0, 1, 2, 3, 4, 5, 6, 7}, e.Path) && len(e.Bytes) <= 262132
}

// kept is those of them that stand there.
func kept(l []api.Event) []api.Event {
	return slices.DeleteFunc(slices.Clone(l), func(e api.Event) bool { return !fits(e) })
}

// own is a capture of our kind.
func own(nano bool, l ...api.Packet) api.Capture {
	return api.Capture{Nano: nano, Snap: api.MaxSnap, Link: 147, Packets: l}
}

// holds awaits of Of that it has the events that fit, and no others.
func holds(t *testing.T, l ...api.Event) {
	t.Helper()
	want := own(false)
	for _, e := range l {
		if fits(e) {
			want.Packets = append(want.Packets, packetByWords(e, false))
		}
	}
	if c := pcap.Of(l); !sameCapture(c, want) {
		t.Errorf("Of(%s): %s, want %s", told(l), told(c), told(want))
	}
	tells(t, want, kept(l)...)
}

// Example 2, and its way back.
func TestExampleOfEvents(t *testing.T) {
	e := api.Event{What: api.EventSent, Side: 1, Path: 2, Clock: 61005, Bytes: unhex("0a0b")}
	want := own(false, api.Packet{Sec: 61, Part: 5000, Len: 14, Data: unhex("62 01 01 02 000000000000ee4d 0a0b")})
	if c := pcap.Of([]api.Event{e}); !sameCapture(c, want) {
		t.Errorf("Of: %s", told(c))
	}
	tells(t, want, e)
	writes(t, want, unhex("a1b2c3d4 0002 0004 00000000 00000000 00040000 00000093", "0000003d 00001388 0000000e 0000000e 62010102 00000000 0000ee4d 0a0b"))
}

// P25.3: of no events a capture without packets.
func TestOfNothing(t *testing.T) {
	want := api.Capture{Snap: 262144, Link: 147}
	for _, l := range [][]api.Event{nil, {}, {{}}, {{What: 7}, {Side: 1}}} {
		if c := pcap.Of(l); !sameCapture(c, want) {
			t.Errorf("Of(%s): %s", told(l), told(c))
		}
	}
	tells(t, want)
}

// P25.3: which What, Side and Path there may be. What does not fit in a byte is not what its lowest byte says.
func TestOfBounds(t *testing.T) {
	odd := []int{math.MinInt, -1 << 32, -1<<8 + 1, -256, -2, -1, 0, 1, 2, 3, 4, 5, 6, 7, 8, 9, 255, 256, 257, 258, 1 << 16, 1<<32 + 1, math.MaxInt}
	var all []api.Event
	for _, x := range odd {
		e, f, g := ev(3, 4, "what"), ev(3, 5, "side"), ev(3, 6, "path")
		e.What, f.Side, g.Path = x, x, x
		holds(t, e)
		holds(t, f)
		holds(t, g)
		all = append(all, e, f, g)
	}
	holds(t, all...)
	if n := len(pcap.Of(all).Packets); n != 6+2+8 {
		t.Errorf("%d packets of %d events", n, len(all))
	}
}

// P25.3: as many bytes as may be, and one more.
func TestOfLong(t *testing.T) {
	for _, n := range []int{0, 1, 1048, 65536, api.MaxSnap - 13, api.MaxSnap - 12, api.MaxSnap - 11, api.MaxSnap, api.MaxSnap + 1} {
		e := ev(1, 2, "")
		e.Bytes = bytes.Repeat([]byte{7}, n)
		holds(t, e)
		holds(t, ev(0, 1, "ahead"), e, ev(0, 2, "behind"))
		c := pcap.Of([]api.Event{e})
		if fit := n <= 262132; len(c.Packets) == 1 != fit {
			t.Errorf("%d bytes: %d packets", n, len(c.Packets))
		}
		writes(t, c, formOf(c).file(c))
	}
}

// P25.3: of seconds the lowest 32 bits, of parts millionths.
func TestOfClocks(t *testing.T) {
	for _, x := range []struct {
		clock     uint64
		sec, part uint32
	}{
		{0, 0, 0}, {1, 0, 1000}, {999, 0, 999000}, {1000, 1, 0}, {1001, 1, 1000}, {61005, 61, 5000},
		{most, 4294967, 295000}, {1 << 32, 4294967, 296000},
		{1<<32*1000 - 1, most, 999000}, {1 << 32 * 1000, 0, 0}, {1<<32*1000 + 1, 0, 1000}, {1<<32*1000 + 1234, 1, 234000}, {1<<32*5000 + 7777, 7, 777000},
		{api.MaxClock, uint32(api.MaxClock / 1000 % (1 << 32)), 904000}, {math.MaxUint64, uint32(math.MaxUint64 / 1000 % (1 << 32)), 615000},
	} {
		e := ev(0, x.clock, "x")
		holds(t, e)
		p := pcap.Of([]api.Event{e}).Packets[0]
		if p.Sec != x.sec || p.Part != x.part || binary.BigEndian.Uint64(p.Data[4:]) != x.clock {
			t.Errorf("clock %d: %s", x.clock, told(p))
		}
		tells(t, own(true, packetByWords(e, true)), e)
	}
}

// P25.4: of our kind alone; Little and Snap are not looked at.
func TestEventsLink(t *testing.T) {
	good, bad := packetByWords(ev(1, 2, "a"), false), pack(1, 2, "none")
	for _, link := range []uint32{0, 1, 146, 148, 147 << 8, 147 << 24, 1<<16 + 147, most} {
		for _, l := range [][]api.Packet{nil, {good}, {bad}, {good, bad}} {
			refusesEvents(t, "another link", api.Capture{Snap: api.MaxSnap, Link: link, Packets: l}, 0, linkErr)
		}
	}
	for _, snap := range []uint32{0, 1, api.MaxSnap + 1, most} {
		for _, little := range []bool{false, true} {
			tells(t, api.Capture{Little: little, Snap: snap, Link: 147})
			tells(t, api.Capture{Little: little, Snap: snap, Link: 147, Packets: []api.Packet{good}}, ev(1, 2, "a"))
			refusesEvents(t, "no snap", api.Capture{Little: little, Snap: snap, Link: 147, Packets: []api.Packet{good, bad}}, 1, headErr)
		}
	}
}

// wrong is each thing that may be wrong with a packet of this event.
func wrong(e api.Event, nano bool) map[string]api.Packet {
	l := map[string]api.Packet{}
	but := func(name string, change func(p *api.Packet)) {
		p := packetByWords(e, nano)
		change(&p)
		l[name] = p
	}
	but("Len one less", func(p *api.Packet) { p.Len-- })
	but("Len one more", func(p *api.Packet) { p.Len++ })
	but("Len 0", func(p *api.Packet) { p.Len = 0 })
	but("Len most", func(p *api.Packet) { p.Len = most })
	but("a byte more", func(p *api.Packet) { p.Data = append(p.Data, 0) })
	but("the last byte cut off", func(p *api.Packet) { p.Data = p.Data[:len(p.Data)-1] })
	for n := range 12 {
		but("just "+strconv.Itoa(n)+" bytes", func(p *api.Packet) { p.Data, p.Len = p.Data[:n], uint32(n) })
	}
	for bit := range 8 {
		but("mark "+strconv.Itoa(bit), func(p *api.Packet) { p.Data[0] ^= 1 << bit })
	}
	for _, x := range []byte{0, 7, 8, 128, 255} {
		but("What "+strconv.Itoa(int(x)), func(p *api.Packet) { p.Data[1] = x })
	}
	for _, x := range []byte{2, 3, 128, 254, 255} {
		but("Side "+strconv.Itoa(int(x)), func(p *api.Packet) { p.Data[2] = x })
	}
	for _, x := range []byte{8, 9, 128, 255} {
		but("Path "+strconv.Itoa(int(x)), func(p *api.Packet) { p.Data[3] = x })
	}
	for i := range 8 {
		but("Clock "+strconv.Itoa(i), func(p *api.Packet) { p.Data[4+i]++ })
	}
	but("Sec one more", func(p *api.Packet) { p.Sec++ })
	but("Sec one less", func(p *api.Packet) { p.Sec-- })
	but("Part one more", func(p *api.Packet) { p.Part++ })
	but("Part one less", func(p *api.Packet) { p.Part-- })
	but("Part of the next ms", func(p *api.Packet) { p.Part += 1000 })
	but("Part of the other unit", func(p *api.Packet) {
		if p.Part /= 1000; !nano {
			p.Part *= 1000 * 1000
		}
	})
	but("Part most", func(p *api.Packet) { p.Part = most })
	but("nothing", func(p *api.Packet) { *p = api.Packet{} })
	return l
}

// P25.4: each thing that may be wrong with a packet, in both units, wherever it stands.
func TestEventsHead(t *testing.T) {
	for _, nano := range []bool{false, true} {
		e := ev(7, 61005, "ab")
		good := packetByWords(e, nano)
		tells(t, own(nano, good, good), e, e)
		for name, bad := range wrong(e, nano) {
			refusesEvents(t, name, own(nano, bad), 0, headErr)
			refusesEvents(t, name, own(nano, bad, good), 0, headErr)
			refusesEvents(t, name, own(nano, good, good, bad, good), 2, headErr)
			for _, other := range wrong(e, nano) {
				refusesEvents(t, name, own(nano, good, bad, other), 1, headErr)
			}
		}
	}
}

// P25.4: the bytes of a frame are any, and none; What, Side and Path are at their bounds.
func TestEventsTaken(t *testing.T) {
	for _, nano := range []bool{false, true} {
		for what := 1; what <= 6; what++ {
			for side := range 2 {
				for path := range 8 {
					for _, text := range []string{"", "b", "\x00\xff"} {
						e := api.Event{What: what, Side: side, Path: path, Clock: uint64(path)<<60 + 1005, Bytes: []byte(text)}
						tells(t, own(nano, packetByWords(e, nano)), e)
					}
				}
			}
		}
	}
	// a part in the other unit is right where it is 0
	e := ev(0, 5000, "x")
	tells(t, own(true, packetByWords(e, false)), e)
	// there is no bound to the bytes beside Len's
	e.Bytes = make([]byte, api.MaxSnap)
	tells(t, own(false, packetByWords(e, false)), e)
}

// P25.4: of packets with any bytes, what the chapter's words say.
func TestEventsAny(t *testing.T) {
	d := dice(4)
	good := 0
	for range 40000 {
		e := d.event()
		e.What, e.Side, e.Path = d.one(1, 2, 6, 7, 0, 255), d.one(0, 1, 2), d.one(0, 1, 7, 8)
		nano := d.below(2) == 0
		p := packetByWords(e, nano)
		switch d.below(8) {
		case 0:
			p.Data[d.below(len(p.Data))] ^= 1 << d.below(8)
		case 1:
			p.Sec += uint32(d.one(1, most))
		case 2:
			p.Part += uint32(d.one(1, most, 1000, 1000000))
		case 3:
			p.Len += uint32(d.one(1, most))
		}
		want := api.Event{What: int(p.Data[1]), Side: int(p.Data[2]), Path: int(p.Data[3]), Clock: binary.BigEndian.Uint64(p.Data[4:]), Bytes: p.Data[12:]}
		if fits(want) && samePacket(p, packetByWords(want, nano)) {
			tells(t, own(nano, p), want)
			good++
		} else {
			refusesEvents(t, told(p), own(nano, p), 0, headErr)
		}
	}
	if good < 2000 || good > 38000 {
		t.Errorf("%d packets were good", good)
	}
}

// event is any one that stands in a capture.
func (d *dice) event() api.Event {
	clock := uint64(d.below(1<<31)) << d.below(64)
	return api.Event{What: 1 + d.below(6), Side: d.below(2), Path: d.below(8), Clock: clock + uint64(d.below(2000)), Bytes: d.bytes(d.below(30))}
}

// P25.7: events there and back, less what is left out; also through a file, in any form.
func TestEventsThereAndBack(t *testing.T) {
	d := dice(5)
	for range 2000 {
		var l []api.Event
		for range d.below(8) {
			e := d.event()
			switch d.below(8) {
			case 0:
				e.What = d.one(0, 7, -1, 257)
			case 1:
				e.Side = d.one(2, -1, 256)
			case 2:
				e.Path = d.one(8, -1, 256)
			case 3:
				e.Bytes = make([]byte, api.MaxSnap-12+d.below(2))
			}
			l = append(l, e)
		}
		c := pcap.Of(l)
		tells(t, c, kept(l)...)
		b, _, _ := pcap.Write(c)
		back, n, e := pcap.Read(b)
		if e != api.OK || n != len(kept(l)) {
			t.Errorf("Read of Write: %d, %d", n, e)
		}
		tells(t, back, kept(l)...)
		through(t, c, kept(l))
	}
}

// through awaits the same events out of a file of each form, the parts being in its unit.
func through(t *testing.T, c api.Capture, want []api.Event) {
	t.Helper()
	for _, f := range forms() {
		other := f.capture(c.Snap, c.Link, slices.Clone(c.Packets)...)
		for i := range other.Packets {
			if f.nano {
				other.Packets[i].Part *= 1000
			}
		}
		b, _, e := pcap.Write(other)
		back, _, e2 := pcap.Read(b)
		if e != api.OK || e2 != api.OK {
			t.Errorf("Write and Read: %d, %d", e, e2)
		}
		tells(t, back, want...)
	}
}

// P25.7: what became of a world's frames.
func TestEventsOfWorld(t *testing.T) {
	s := api.Script{Config: api.Config{Paths: 2, Mss: 4, SendBuf: 40, RecvBuf: 40, Gaps: 4, Retries: 3, Bag: 2, Keys: [2]uint64{1, 2}}}
	step := func(kind, side, path int, text string) {
		s.Steps = append(s.Steps, api.Step{Kind: kind, Side: side, Path: path, Mask: 1, N: 0, Data: []byte(text)})
	}
	step(api.StepWrite, 0, 0, "abcdefghijklmnop") // more than the bag holds
	step(api.StepDouble, 0, 0, "")
	step(api.StepDrop, 0, 0, "")
	step(api.StepDouble, 0, 0, "")
	step(api.StepSpoil, 0, 0, "")
	step(api.StepFlush, 0, 0, "")
	w, e := harness.New(s.Config)
	if e != api.OK {
		t.Fatal(e)
	}
	seen := map[int]bool{}
	for _, x := range s.Steps {
		w.Do(x)
	}
	log := w.Log()
	for _, x := range log {
		seen[x.What] = true
	}
	if len(seen) != 6 {
		t.Errorf("kinds of events: %v", seen)
	}
	c := pcap.Of(log)
	tells(t, c, log...)
	through(t, c, log)
}
