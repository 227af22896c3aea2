package pieces_test

import (
	"bytes"
	"encoding/hex"
	"fmt"
	"slices"
	"strings"
	"testing"

	"braid/api"
	"braid/pieces"
)

// refused awaits that bytes are no manifest.
func refused(t *testing.T, what string, b []byte) {
	t.Helper()
	if m, e := pieces.Decode(b); e != formErr || m != (api.Manifest{}) {
		t.Errorf("%s: %v, %d", what, m, e)
	}
}

// there awaits that Encode gives the chapter's bytes, and Decode the manifest again.
func there(t *testing.T, m api.Manifest) []byte {
	t.Helper()
	b, e := pieces.Encode(m)
	if e != api.OK || !bytes.Equal(b, laid(m)) {
		t.Errorf("Encode of %v: %x, %d, want %x", m, b, e, laid(m))
	}
	if got, e := pieces.Decode(b); e != api.OK || got != m {
		t.Errorf("Decode of %x: %v, %d, want %v", b, got, e, m)
	}
	return b
}

// manifests is fit ones of many kinds.
func manifests() []api.Manifest {
	d := dice(11)
	var l []api.Manifest
	for _, name := range []string{"x", "ab", "...", " ", "\xff\x80", strings.Repeat("n", 127), strings.Repeat("n", 128), strings.Repeat("\xee", 255), "BRP1"} {
		for _, size := range []int{0, 1, 255, 256, 65535, 65536, 1<<24 - 1, 1 << 24} {
			for _, piece := range []int{1, 255, 256, 65535, 65536} {
				l = append(l, api.Manifest{Name: name, Size: size, Piece: piece, Root: d.sum()})
			}
		}
	}
	return append(l, api.Manifest{Name: "z", Piece: 1})
}

// P22.3, P22.8: there and back, of any fit manifest with any root.
func TestThereAndBack(t *testing.T) {
	for _, m := range manifests() {
		there(t, m)
	}
	for size := range 9 {
		m, _ := pieces.Describe("x", []byte(text(size)), 2)
		there(t, m)
	}
	for n := 1; n <= 255; n++ {
		b := there(t, api.Manifest{Name: strings.Repeat("q", n), Size: n, Piece: n})
		if len(b) != n+49 {
			t.Errorf("a name of %d bytes: %d bytes", n, len(b))
		}
	}
}

// P22.3: each byte changed in each way, under the old sum.
func TestByteChanged(t *testing.T) {
	for _, m := range []api.Manifest{manifestOf("x", "abcdefg", 3), manifestOf("ab", "", 1), {Name: "long name", Size: 1 << 24, Piece: 65536}} {
		b := there(t, m)
		for i := range b {
			for x := 1; x < 256; x++ {
				c := slices.Clone(b)
				c[i] ^= byte(x)
				refused(t, fmt.Sprintf("byte %d changed by %x", i, x), c)
			}
		}
	}
}

// P22.3: cut off anywhere, and with bytes behind or ahead.
func TestCutOff(t *testing.T) {
	refused(t, "nothing", nil)
	refused(t, "no bytes", []byte{})
	for _, m := range []api.Manifest{manifestOf("x", "abcdefg", 3), manifestOf(strings.Repeat("n", 255), "abc", 1)} {
		b := there(t, m)
		for n := range b {
			refused(t, fmt.Sprintf("%d bytes", n), b[:n:n])
			refused(t, fmt.Sprintf("%d bytes, the others behind them", n), b[:n])
			refused(t, fmt.Sprintf("without the first %d bytes", len(b)-n), b[len(b)-n:])
			if n != len(b)-4 { // so many are all but the sum
				refused(t, fmt.Sprintf("%d bytes summed", n), summed(b[:n]))
			}
			refused(t, fmt.Sprintf("without byte %d", n), slices.Delete(slices.Clone(b), n, n+1))
		}
		for _, behind := range [][]byte{{0}, {1}, {0xff}, {0, 0, 0, 0}, b} {
			refused(t, fmt.Sprintf("%x behind", behind), slices.Concat(b, behind))
			refused(t, fmt.Sprintf("%x ahead", behind), slices.Concat(behind, b))
			refused(t, fmt.Sprintf("%x within the sum", behind), summed(slices.Concat(b[:len(b)-4], behind)))
		}
	}
}

// P22.3: what may not be, under a right sum.
func TestWrongUnderARightSum(t *testing.T) {
	for _, name := range []string{"", ".", "..", "/", "a/b", "\x00", "a\x1f", "\x7f"} {
		refused(t, fmt.Sprintf("the name %q", name), laid(api.Manifest{Name: name, Size: 7, Piece: 3}))
	}
	for _, piece := range []int{0, 65537, 1 << 24, 1<<31 - 1, 1 << 31, 1<<32 - 1} {
		refused(t, fmt.Sprintf("Piece %d", piece), laid(api.Manifest{Name: "x", Size: 7, Piece: piece}))
	}
	for _, size := range []int{1<<24 + 1, 1 << 25, 1<<31 - 1, 1 << 31, 1<<32 - 1} {
		refused(t, fmt.Sprintf("Size %d", size), laid(api.Manifest{Name: "x", Size: size, Piece: 3}))
	}
	b := laid(manifestOf("x", "abcdefg", 3))
	body := b[:len(b)-4]
	for i := range 4 {
		c := slices.Clone(body)
		c[i] ^= 0x20
		refused(t, fmt.Sprintf("first byte %d", i), summed(c))
	}
	for n := range 256 {
		if n != 1 {
			c := slices.Clone(body)
			c[4] = byte(n)
			refused(t, fmt.Sprintf("a name of %d bytes that has one", n), summed(c))
		}
	}
	for n := range 60 {
		refused(t, fmt.Sprintf("%d zeros", n), summed(make([]byte, n)))
		refused(t, fmt.Sprintf("the first bytes and %d zeros", n), summed(append([]byte("BRP1"), make([]byte, n)...)))
	}
}

// P22.3: any other root, Size, Piece or name that may be, under its right sum, is another manifest.
func TestOtherUnderARightSum(t *testing.T) {
	m := manifestOf("x", "abcdefg", 3)
	body := laid(m)[:46]
	for i := 5; i < len(body); i++ {
		c := slices.Clone(body)
		c[i] ^= 1
		got, e := pieces.Decode(summed(c))
		if i == 6 || i == 10 || i == 11 { // a Size, a Piece that is too great
			if e != formErr {
				t.Errorf("byte %d: %v, %d", i, got, e)
			}
			continue
		}
		if e != api.OK || got == m {
			t.Errorf("byte %d: %v, %d", i, got, e)
		}
	}
}

// P22.8: bytes that Decode takes are what Encode gives.
func TestBackAndThere(t *testing.T) {
	d := dice(12)
	taken := 0
	for range 20000 {
		b := d.mangled()
		m, e := pieces.Decode(b)
		if e != api.OK {
			if e != formErr || m != (api.Manifest{}) {
				t.Fatalf("Decode of %x: %v, %d", b, m, e)
			}
			continue
		}
		taken++
		if again, e := pieces.Encode(m); e != api.OK || !bytes.Equal(again, b) || !bytes.Equal(laid(m), b) {
			t.Fatalf("%x is taken, and its manifest gives %x, %d", b, again, e)
		}
	}
	if taken < 1000 || taken > 19000 {
		t.Errorf("%d were taken", taken)
	}
}

// mangled is a manifest's bytes, of which some were changed, with a right sum behind them or not.
func (d *dice) mangled() []byte {
	name := string(d.bytes(1 + d.below(4)))
	m := api.Manifest{Name: name, Size: d.one(0, 1, 7, 1<<24, 1<<24+1, 1<<32-1), Piece: d.one(1, 3, 65536, 65537, 0), Root: d.sum()}
	if d.below(2) == 0 {
		m.Name, m.Piece = "abc", 3
	}
	b := laid(m)
	b = b[:len(b)-4]
	for range d.below(3) {
		b[d.below(len(b))] ^= byte(d.below(256))
	}
	switch d.below(6) {
	case 0:
		b = b[:d.below(len(b))]
	case 1:
		b = append(b, d.bytes(d.below(3))...)
	}
	if d.below(8) == 0 {
		return append(b, d.bytes(4)...)
	}
	return summed(b)
}

// The chapter's example 7, byte by byte.
func TestBytes(t *testing.T) {
	b, e := pieces.Encode(manifestOf("x", "abcdefg", 3))
	const head = "42525031" + "0178" + "00000007" + "00000003" + "2de745f5"
	if e != api.OK || len(b) != 50 || hex.EncodeToString(b[:18]) != head {
		t.Errorf("%x, %d", b, e)
	}
}
