package pcap_test

import (
	"bytes"
	"testing"

	"braid/api"
	"braid/pcap"
)

// P25.5: Read of what Write gives of a capture is the capture.
func TestThereAndBack(t *testing.T) {
	d := dice(6)
	for range 20000 {
		c := d.capture()
		b, n, e := pcap.Write(c)
		if n != len(c.Packets) || e != api.OK {
			t.Fatalf("Write(%s): %d, %d", told(c), n, e)
		}
		reads(t, b, c, n, api.OK)
	}
}

// P25.6: if Read takes a file whose two numbers are 0, Write of what it tells is that file.
func TestFileAgain(t *testing.T) {
	d := dice(7)
	taken := 0
	for range 20000 {
		c := d.capture()
		b := formOf(c).file(c)
		for range d.below(3) {
			b[d.below(len(b))] ^= 1 << d.below(8)
		}
		copy(b[8:16], make([]byte, 8))
		c, _, e := pcap.Read(b)
		if e != api.OK {
			continue
		}
		taken++
		if again, _, e := pcap.Write(c); !bytes.Equal(again, b) || e != api.OK {
			t.Fatalf("Write: %x, %d, want %x", again, e, b)
		}
	}
	if taken < 5000 {
		t.Errorf("%d files were taken", taken)
	}
}

// P25.6: other numbers there come out as 0, and all else as it was.
func TestFileAgainWithNumbers(t *testing.T) {
	for _, f := range forms() {
		b := append(f.headOf(2, 4, 77, most, 9, 8), f.packet(pack(1, 2, "ab"))...)
		c, _, _ := pcap.Read(b)
		copy(b[8:16], make([]byte, 8))
		writes(t, c, b)
	}
}

// P25.8: any beginning of a file has the packets that are whole in it, and tells where it was cut off.
func TestBeginnings(t *testing.T) {
	d := dice(8)
	for range 400 {
		c := d.capture()
		b := formOf(c).file(c)
		copy(b[8:16], d.bytes(8))
		whole, next := 0, 24
		for n := 24; n <= len(b); n++ {
			for whole < len(c.Packets) && next+16+len(c.Packets[whole].Data) <= n {
				next += 16 + len(c.Packets[whole].Data)
				whole++
			}
			want, e := c, api.OK
			want.Packets = c.Packets[:whole]
			if n != next {
				e = cutErr
			}
			reads(t, b[:n], want, whole, e)
		}
		for n := range 24 {
			refuses(t, b[:n], shortErr)
		}
	}
}
