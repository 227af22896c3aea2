package pcap_test

import (
	"bytes"
	"testing"

	"braid/api"
)

// formOf is the form of a capture's file.
func formOf(c api.Capture) form {
	for _, f := range forms() {
		if f.little == c.Little && f.nano == c.Nano {
			return f
		}
	}
	panic("no form")
}

// capture is any one that can be written.
func (d *dice) capture() api.Capture {
	f := forms()[d.below(4)]
	snap := d.one(1, 2, 5, 300, 65535, api.MaxSnap-1, api.MaxSnap)
	c := f.capture(uint32(snap), uint32(d.one(0, 1, 147, most, d.below(most))))
	for range d.below(5) {
		p := api.Packet{Sec: uint32(d.one(0, 1, most, d.below(most))), Part: uint32(d.one(0, 1, 999999, int(f.second())-1, d.below(int(f.second()))))}
		p.Data = d.bytes(d.below(min(snap, 20) + 1))
		p.Len = uint32(len(p.Data) + d.one(0, 1, 1000, d.below(1<<31)))
		c.Packets = append(c.Packets, p)
	}
	return c
}

// P25.2: a file by the chapter's words, in each form.
func TestWrite(t *testing.T) {
	for _, f := range forms() {
		writes(t, f.capture(65535, 147), f.head(65535, 147))
		c := f.capture(65536, 0x01020304, three()...)
		c.Packets = append(c.Packets, api.Packet{}, api.Packet{Sec: 0x0a0b0c0d, Part: f.second() - 1, Len: most, Data: bytes.Repeat([]byte("y"), 65536)})
		writes(t, c, f.file(c))
	}
	// by hand, lowest byte first
	writes(t, api.Capture{Little: true, Snap: 4, Link: 5, Packets: []api.Packet{{Sec: 0x0a0b0c0d, Part: 0x10203, Len: 256, Data: []byte("ab")}, {Sec: 1}}},
		unhex("d4c3b2a1 0200 0400 00000000 00000000 04000000 05000000", "0d0c0b0a 03020100 02000000 00010000 6162", "01000000 00000000 00000000 00000000"))
	writes(t, api.Capture{Nano: true, Snap: 4, Link: 5, Packets: []api.Packet{{Sec: 0x0a0b0c0d, Part: 999999999, Len: 256, Data: []byte("ab")}}},
		unhex("a1b23c4d 0002 0004 00000000 00000000 00000004 00000005", "0a0b0c0d 3b9ac9ff 00000002 00000100 6162"))
}

// P25.2: Snap is 1 to MaxSnap; that is told ahead of all packets.
func TestWriteSnap(t *testing.T) {
	for _, f := range forms() {
		for _, snap := range []uint32{1, 2, api.MaxSnap - 1, api.MaxSnap} {
			writes(t, f.capture(snap, 8), f.head(snap, 8))
			writes(t, f.capture(snap, 8, pack(1, 2, "a")), append(f.head(snap, 8), f.packet(pack(1, 2, "a"))...))
		}
		for _, snap := range []uint32{0, api.MaxSnap + 1, 1 << 31, most} {
			refusesWrite(t, f.capture(snap, 8), 0, snapErr)
			refusesWrite(t, f.capture(snap, 8, pack(1, 2, "a")), 0, snapErr)
			refusesWrite(t, f.capture(snap, 8, pack(1, 2, "a"), pack(1, most, "a")), 0, snapErr)
			refusesWrite(t, f.capture(snap, 8, api.Packet{Part: most, Data: []byte("a")}), 0, snapErr)
		}
	}
	refusesWrite(t, api.Capture{}, 0, snapErr)
}

// P25.2: what is wrong with a packet, wherever it stands.
func TestWriteFaults(t *testing.T) {
	for _, f := range forms() {
		for _, x := range []struct {
			part, size uint32
			text       string
			e          api.Errno
		}{
			{0, 0, "", api.OK}, {0, most, "", api.OK}, {999999, 4, "abcd", api.OK}, {f.second() - 1, 4, "abcd", api.OK}, {0, 5, "abcd", api.OK}, {0, most, "abcd", api.OK}, {0, 3, "abc", api.OK}, {0, 4, "abc", api.OK},
			{f.second(), 4, "abcd", timeErr}, {f.second(), 0, "", timeErr}, {f.second() + 1, 4, "abcd", timeErr}, {1 << 31, 4, "abcd", timeErr}, {most, 4, "abcd", timeErr},
			{0, 5, "abcde", lengthErr}, {0, 6, "abcde", lengthErr}, {0, most, "abcde", lengthErr}, {0, 4, "abcde", lengthErr},
			{0, 3, "abcd", lengthErr}, {0, 0, "abcd", lengthErr}, {0, 0, "a", lengthErr}, {0, 2, "abc", lengthErr},
			{f.second(), 5, "abcde", timeErr}, {most, 0, "a", timeErr},
		} {
			p := api.Packet{Sec: 9, Part: x.part, Len: x.size, Data: []byte(x.text)}
			for _, at := range []int{0, 1, 3} {
				c := f.capture(4, 8, three()[:at]...)
				c.Packets = append(c.Packets, p)
				if c.Packets = append(c.Packets, three()...); x.e == api.OK {
					writes(t, c, f.file(c))
				} else {
					refusesWrite(t, c, at, x.e)
				}
			}
		}
	}
	for _, f := range forms() {
		if p := pack(0, 1000000, "ab"); f.nano {
			writes(t, f.capture(4, 8, p), append(f.head(4, 8), f.packet(p)...))
		} else {
			refusesWrite(t, f.capture(4, 8, p), 0, timeErr)
		}
	}
}

// P25.2: of several packets that are wrong the first.
func TestWriteFirstFault(t *testing.T) {
	for _, f := range forms() {
		good, late, long := pack(1, 2, "ab"), pack(1, most, "ab"), pack(1, 2, "abcde")
		refusesWrite(t, f.capture(4, 8, good, late, long), 1, timeErr)
		refusesWrite(t, f.capture(4, 8, good, good, long, late), 2, lengthErr)
		refusesWrite(t, f.capture(4, 8, long, late, good), 0, lengthErr)
		refusesWrite(t, f.capture(4, 8, late, late), 0, timeErr)
	}
}

// P25.2: as many bytes as may be kept at most.
func TestWriteGreatPacket(t *testing.T) {
	for _, f := range forms() {
		p := api.Packet{Len: most, Data: bytes.Repeat([]byte("z"), api.MaxSnap)}
		c := f.capture(api.MaxSnap, 8, p)
		writes(t, c, f.file(c))
		c.Snap--
		refusesWrite(t, c, 0, lengthErr)
		c.Snap++
		c.Packets[0].Data = append(c.Packets[0].Data, 0)
		refusesWrite(t, c, 0, lengthErr)
	}
}

// P25.2: of any captures what the chapter's words say.
func TestWriteAny(t *testing.T) {
	d := dice(2)
	for range 20000 {
		c := d.capture()
		if len(c.Packets) > 0 && d.below(2) == 0 {
			p := &c.Packets[d.below(len(c.Packets))]
			p.Part += uint32(d.one(0, 0, 1, 1000000, most))
			p.Len -= uint32(d.one(0, 0, 1, int(p.Len)))
			p.Data = append(p.Data, d.bytes(d.one(0, 0, 1, 5))...)
		}
		at, e := 0, api.OK
		for e == api.OK && at < len(c.Packets) {
			p := c.Packets[at]
			switch {
			case p.Part >= formOf(c).second():
				e = timeErr
			case uint64(len(p.Data)) > uint64(c.Snap) || uint64(len(p.Data)) > uint64(p.Len):
				e = lengthErr
			default:
				at++
			}
		}
		if e == api.OK {
			writes(t, c, formOf(c).file(c))
		} else {
			refusesWrite(t, c, at, e)
		}
	}
}
