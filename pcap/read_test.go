package pcap_test

import (
	"bytes"
	"encoding/binary"
	"slices"
	"testing"

	"braid/api"
	"braid/pcap"
)

// Example 1, and what example 3 has of files.
func TestExamplesOfFiles(t *testing.T) {
	high := unhex("a1b2c3d4 0002 0004 00000000 00000000 0000ffff 00000093")
	low := unhex("4d3cb2a1 0200 0400 00000000 00000000 ffff0000 93000000")
	for _, x := range []struct {
		c api.Capture
		b []byte
	}{
		{api.Capture{Snap: 65535, Link: 147}, high},
		{api.Capture{Little: true, Nano: true, Snap: 65535, Link: 147}, low},
	} {
		reads(t, x.b, x.c, 0, api.OK)
		writes(t, x.c, x.b)
	}
	first := api.Capture{Snap: 65535, Link: 147}
	reads(t, append(slices.Clone(high), make([]byte, 15)...), first, 0, cutErr)
	late := unhex("00000000 000f4240 00000000 00000000")
	reads(t, append(slices.Clone(high), late...), first, 0, timeErr)
	late = unhex("00000000 40420f00 00000000 00000000")
	second := api.Capture{Little: true, Nano: true, Snap: 65535, Link: 147, Packets: []api.Packet{{Part: 1000000}}}
	reads(t, append(slices.Clone(low), late...), second, 1, api.OK)
}

// P25.1: fewer than 24 bytes are told ahead of all else.
func TestReadShort(t *testing.T) {
	refuses(t, nil, shortErr)
	refuses(t, []byte{}, shortErr)
	refuses(t, make([]byte, 23), shortErr)
	refuses(t, make([]byte, 24), magicErr)
	for _, f := range forms() {
		b := f.head(9, 8)
		for n := range 24 {
			refuses(t, b[:n], shortErr)
		}
		reads(t, b, f.capture(9, 8), 0, api.OK)
		bad := f.headOf(9, 9, 0, 0, 0, 0)
		for n := range 24 {
			refuses(t, bad[:n], shortErr)
		}
	}
}

// P25.1: the four forms of the first four bytes, and whatever differs from one of them by a bit.
func TestReadMagic(t *testing.T) {
	for _, f := range forms() {
		for bit := range 32 {
			b := f.head(9, 8)
			b[bit/8] ^= 1 << (bit % 8)
			refuses(t, b, magicErr)
			refuses(t, append(b, f.packet(pack(1, 2, "ab"))...), magicErr)
		}
	}
	for _, s := range []string{"00000000", "ffffffff", "a1b2c3c4", "b2a1d4c3", "c3d4a1b2", "3c4da1b2", "a1b2b2a1", "4d3cc3d4", "0a0d0d0a"} {
		b := forms()[0].head(9, 8)
		copy(b, unhex(s))
		refuses(t, b, magicErr)
	}
}

// P25.1: 2 and 4, and no other versions, by the order that the magic says.
func TestReadVersion(t *testing.T) {
	for _, f := range forms() {
		for _, v := range [][2]uint16{{0, 0}, {2, 3}, {2, 5}, {1, 4}, {3, 4}, {4, 2}, {2, 0}, {0, 4}, {2, 2}, {4, 4}, {0x200, 0x400}, {0x202, 4}, {2, 0x404}, {0x102, 4}, {2, 0x104}, {2, 0x400}, {0x200, 4}, {65535, 65535}} {
			refuses(t, f.headOf(v[0], v[1], 0, 0, 9, 8), versionErr)
		}
		for bit := range 32 {
			b := f.head(9, 8)
			b[4+bit/8] ^= 1 << (bit % 8)
			refuses(t, b, versionErr)
		}
	}
}

// P25.1: two numbers are not looked at, and Link is any.
func TestReadFreeNumbers(t *testing.T) {
	d := dice(3)
	for _, f := range forms() {
		for _, x := range [][3]uint32{{0, 0, 0}, {1, 0, 1}, {0, 1, 147}, {most, 0, most}, {0, most, 1 << 31}, {most, most, 2}, {0xa1b2c3d4, 0xffff, 0x01020304}} {
			reads(t, f.headOf(2, 4, x[0], x[1], 9, x[2]), f.capture(9, x[2]), 0, api.OK)
		}
		for range 50 {
			b := f.head(9, 8)
			copy(b[8:16], d.bytes(8))
			reads(t, append(b, f.packet(pack(1, 2, "ab"))...), f.capture(9, 8, pack(1, 2, "ab")), 1, api.OK)
		}
	}
}

// P25.1: Snap is 1 to MaxSnap.
func TestReadSnap(t *testing.T) {
	for _, f := range forms() {
		for _, snap := range []uint32{1, 2, 255, 256, 65535, 65536, api.MaxSnap - 1, api.MaxSnap} {
			reads(t, f.head(snap, 8), f.capture(snap, 8), 0, api.OK)
		}
		for _, snap := range []uint32{0, api.MaxSnap + 1, api.MaxSnap << 1, 1 << 24, 1 << 31, most} {
			refuses(t, f.head(snap, 8), snapErr)
			refuses(t, append(f.head(snap, 8), f.packet(pack(1, 2, "ab"))...), snapErr)
		}
	}
}

// P25.1: of several faults of a head the first one that applies.
func TestReadSeveralFaultsOfHead(t *testing.T) {
	for _, f := range forms() {
		all := f.headOf(9, 9, 0, 0, 0, 0)
		all[0] ^= 1
		all = append(all, 1)
		refuses(t, all[:23], shortErr)
		refuses(t, all, magicErr)
		refuses(t, append(f.headOf(9, 9, 0, 0, 0, 0), 1), versionErr)
		refuses(t, append(f.headOf(2, 9, 0, 0, most, 0), 1), versionErr)
		refuses(t, append(f.head(0, 0), 1), snapErr)
	}
}

// P25.1: all that a packet tells, in each form.
func TestReadPackets(t *testing.T) {
	for _, f := range forms() {
		want := f.capture(65536, 8, three()...)
		want.Packets = append(want.Packets, api.Packet{}, api.Packet{Sec: 0x0a0b0c0d, Part: f.second() - 1, Len: most, Data: bytes.Repeat([]byte("x"), 65536)})
		reads(t, f.file(want), want, 5, api.OK)
	}
	// by hand, lowest byte first
	reads(t, unhex("d4c3b2a1 0200 0400 00000000 00000000 04000000 05000000", "0d0c0b0a 03020100 02000000 00010000 6162", "01000000 00000000 00000000 00000000"),
		api.Capture{Little: true, Snap: 4, Link: 5, Packets: []api.Packet{{Sec: 0x0a0b0c0d, Part: 0x10203, Len: 256, Data: []byte("ab")}, {Sec: 1}}}, 2, api.OK)
}

// P25.1: a part is less than a second, in its own unit.
func TestReadTime(t *testing.T) {
	for _, f := range forms() {
		ahead := pack(7, 8, "ok")
		b := append(f.head(9, 8), f.packet(ahead)...)
		for _, part := range []uint32{0, 1, 999999, f.second() - 1} {
			p := pack(3, part, "a")
			reads(t, slices.Concat(b, f.packet(p)), f.capture(9, 8, ahead, p), 2, api.OK)
		}
		for _, part := range []uint32{f.second(), f.second() + 1, 1 << 30, 1 << 31, most} {
			p := pack(3, part, "a")
			reads(t, slices.Concat(b, f.packet(p)), f.capture(9, 8, ahead), 1, timeErr)
			reads(t, slices.Concat(b, f.packet(p), f.packet(ahead)), f.capture(9, 8, ahead), 1, timeErr)
		}
	}
	for _, f := range forms() {
		want := timeErr
		if f.nano {
			want = api.OK
		}
		if _, _, e := pcap.Read(append(f.head(9, 8), f.packet(pack(0, 1000000, ""))...)); e != want {
			t.Errorf("%v: a million parts: %d, want %d", f, e, want)
		}
	}
}

// P25.1: no more bytes are kept than Snap, or than Len.
func TestReadLength(t *testing.T) {
	for _, f := range forms() {
		ahead := pack(7, 8, "ok")
		b := append(f.head(4, 8), f.packet(ahead)...)
		for _, x := range []struct {
			text string
			size uint32
			e    api.Errno
		}{
			{"", 0, api.OK}, {"", 1, api.OK}, {"", most, api.OK},
			{"abc", 3, api.OK}, {"abc", 4, api.OK}, {"abc", 2, lengthErr}, {"abc", 0, lengthErr},
			{"abcd", 4, api.OK}, {"abcd", 5, api.OK}, {"abcd", most, api.OK}, {"abcd", 3, lengthErr},
			{"abcde", 5, lengthErr}, {"abcde", 6, lengthErr}, {"abcde", most, lengthErr}, {"abcde", 4, lengthErr}, {"abcde", 3, lengthErr},
		} {
			p := api.Packet{Sec: 1, Part: 2, Len: x.size, Data: []byte(x.text)}
			if x.e == api.OK {
				reads(t, slices.Concat(b, f.packet(p)), f.capture(4, 8, ahead, p), 2, api.OK)
			} else {
				reads(t, slices.Concat(b, f.packet(p)), f.capture(4, 8, ahead), 1, x.e)
			}
		}
	}
}

// P25.1: kept lengths near 2^32, and near 2^31, are lengths like all others.
func TestReadGreatLength(t *testing.T) {
	for _, f := range forms() {
		for _, kept := range []uint32{api.MaxSnap + 1, 1<<31 - 1, 1 << 31, 1<<31 + 1, most - 16, most - 15, most - 1, most} {
			for _, size := range []uint32{0, 4, kept - 1, kept, most} {
				b := append(f.head(api.MaxSnap, 8), f.numbers(1, 2, kept, size)...)
				reads(t, append(b, "abcd"...), f.capture(api.MaxSnap, 8), 0, lengthErr)
				reads(t, b, f.capture(api.MaxSnap, 8), 0, lengthErr)
			}
		}
		p := api.Packet{Sec: 1, Part: 2, Len: most, Data: bytes.Repeat([]byte("z"), api.MaxSnap)}
		reads(t, append(f.head(api.MaxSnap, 8), f.packet(p)...), f.capture(api.MaxSnap, 8, p), 1, api.OK)
		p.Data = append(p.Data, 1)
		reads(t, append(f.head(api.MaxSnap, 8), f.packet(p)...), f.capture(api.MaxSnap, 8), 0, lengthErr)
	}
}

// P25.1: where a file ends within a packet.
func TestReadCut(t *testing.T) {
	for _, f := range forms() {
		whole := f.file(f.capture(9, 8, three()...))
		// the bytes of the packets stand from 40, 58 and 74 on
		for _, x := range []struct {
			n, packets int
			e          api.Errno
		}{
			{24, 0, api.OK}, {25, 0, cutErr}, {39, 0, cutErr}, {40, 0, cutErr}, {41, 0, cutErr},
			{42, 1, api.OK}, {43, 1, cutErr}, {57, 1, cutErr},
			{58, 2, api.OK}, {59, 2, cutErr}, {73, 2, cutErr}, {74, 2, cutErr}, {76, 2, cutErr},
			{77, 3, api.OK},
		} {
			reads(t, whole[:x.n], f.capture(9, 8, three()[:x.packets]...), x.packets, x.e)
		}
		reads(t, append(whole, 0), f.capture(9, 8, three()...), 3, cutErr)
		reads(t, append(whole, make([]byte, 15)...), f.capture(9, 8, three()...), 3, cutErr)
		reads(t, append(whole, make([]byte, 16)...), f.capture(9, 8, append(three(), api.Packet{})...), 4, api.OK)
	}
}

// P25.1: of several faults of a packet the first one that applies; and the first packet that is wrong.
func TestReadSeveralFaultsOfPackets(t *testing.T) {
	for _, f := range forms() {
		b := append(f.head(4, 8), f.packet(pack(1, 2, "ok"))...)
		want := f.capture(4, 8, pack(1, 2, "ok"))
		late, long, cut := f.numbers(0, f.second(), 9, 3), f.numbers(0, 0, 9, 3), f.numbers(0, 0, 3, 3)
		for _, x := range []struct {
			rest []byte
			e    api.Errno
		}{
			{late[:15], cutErr}, {late[:8], cutErr}, {long[:15], cutErr}, {long[:12], cutErr},
			{late, timeErr}, {slices.Concat(late, make([]byte, 9)), timeErr}, {f.numbers(0, f.second(), 3, 3), timeErr}, {f.numbers(0, most, most, most), timeErr},
			{long, lengthErr}, {slices.Concat(long, make([]byte, 3)), lengthErr}, {f.numbers(0, 0, 3, 2), lengthErr}, {f.numbers(0, 0, 5, 5), lengthErr},
			{cut, cutErr}, {slices.Concat(cut, []byte("ab")), cutErr},
			{slices.Concat(late, long), timeErr}, {slices.Concat(long, late), lengthErr},
		} {
			reads(t, slices.Concat(b, x.rest), want, 1, x.e)
			reads(t, slices.Concat(b, b[24:], b[24:], x.rest), f.capture(4, 8, pack(1, 2, "ok"), pack(1, 2, "ok"), pack(1, 2, "ok")), 3, x.e)
		}
	}
}

// readByWords is Read, by the chapter's words.
func readByWords(b []byte) (c api.Capture, n int, e api.Errno) {
	if len(b) < 24 {
		return c, 0, shortErr
	}
	var o binary.ByteOrder
	second := uint32(0)
	for _, f := range forms() {
		if bytes.Equal(b[:4], unhex(f.magic)) {
			c.Little, c.Nano, second = f.little, f.nano, f.second()
			o = binary.BigEndian
			if f.little {
				o = binary.LittleEndian
			}
		}
	}
	if o == nil {
		return api.Capture{}, 0, magicErr
	}
	if o.Uint16(b[4:]) != 2 || o.Uint16(b[6:]) != 4 {
		return api.Capture{}, 0, versionErr
	}
	c.Snap, c.Link = o.Uint32(b[16:]), o.Uint32(b[20:])
	if c.Snap == 0 || c.Snap > 262144 {
		return api.Capture{}, 0, snapErr
	}
	for b = b[24:]; len(b) > 0; n++ {
		if len(b) < 16 {
			return c, n, cutErr
		}
		p := api.Packet{Sec: o.Uint32(b), Part: o.Uint32(b[4:]), Len: o.Uint32(b[12:])}
		kept := o.Uint32(b[8:])
		if p.Part >= second {
			return c, n, timeErr
		}
		if kept > c.Snap || kept > p.Len {
			return c, n, lengthErr
		}
		if b = b[16:]; uint64(len(b)) < uint64(kept) {
			return c, n, cutErr
		}
		p.Data = slices.Clone(b[:kept])
		b = b[kept:]
		c.Packets = append(c.Packets, p)
	}
	return c, n, api.OK
}

// P25.1: of any files, whole, broken off, spoilt and made of anything, what the chapter's words say.
func TestReadAny(t *testing.T) {
	d := dice(1)
	counts := map[api.Errno]int{}
	for range 30000 {
		c := d.capture()
		b := formOf(c).file(c)
		switch d.below(4) {
		case 0:
			b = b[:d.below(len(b)+1)]
		case 1:
			for range 1 + d.below(3) {
				b[d.below(len(b))] = byte(d.one(0, 1, 2, 4, 255, d.below(256)))
			}
		case 2:
			b = append(b, d.bytes(d.below(40))...)
		}
		want, n, e := readByWords(b)
		reads(t, b, want, n, e)
		counts[e]++
	}
	for _, e := range []api.Errno{api.OK, shortErr, magicErr, versionErr, snapErr, timeErr, lengthErr, cutErr} {
		if counts[e] < 20 {
			t.Errorf("error %d came %d times", e, counts[e])
		}
	}
	for range 3000 {
		b := d.bytes(d.below(80))
		want, n, e := readByWords(b)
		reads(t, b, want, n, e)
	}
}

// Many packets are read and written in a time that grows as they do.
func TestManyPackets(t *testing.T) {
	for _, f := range forms() {
		c := f.capture(4, 8, slices.Repeat([]api.Packet{pack(1, 2, "ab"), {Sec: 3}}, 100000)...)
		b := f.file(c)
		reads(t, b, c, 200000, api.OK)
		writes(t, c, b)
		c.Packets[199999].Part = most
		refusesWrite(t, c, 199999, timeErr)
		reads(t, b[:len(b)-1], f.capture(4, 8, c.Packets[:199999]...), 199999, cutErr)
	}
}
