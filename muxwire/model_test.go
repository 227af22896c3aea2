package muxwire_test

import (
	"bytes"
	"encoding/binary"
	"math"
	"math/big"
	"slices"
	"strconv"
	"strings"
	"testing"

	"braid/api"
	"braid/muxwire"
)

func digits(n int64) string { return strconv.FormatInt(n, 10) }

// dice gives the same row of numbers in every run.
type dice uint64

func (d *dice) below(n int) int {
	*d = *d*6364136223846793005 + 1442695040888963407
	return int(uint64(*d) >> 33 % uint64(n))
}

func (d *dice) text(n int) []byte {
	b := make([]byte, n)
	for i := range b {
		b[i] = byte(d.below(256))
	}
	return b
}

// number is one of any length of bytes, within the bounds of all numbers.
func (d *dice) number() uint64 {
	n := uint64(d.below(1<<31))<<31 | uint64(d.below(1<<31))
	switch d.below(8) {
	case 0:
		return top
	case 1:
		return uint64(d.below(3))
	}
	return n >> d.below(62)
}

// fit is any frame that is fit; few of them have many bytes.
func (d *dice) fit() api.MuxFrame {
	f := api.MuxFrame{Kind: 1 + d.below(9)}
	for _, field := range strings.Fields(ownFields()[f.Kind]) {
		switch field {
		case "Stream":
			f.Stream = max(d.number(), 1)
			if f.Kind == api.MuxRoom || f.Kind == api.MuxAway {
				f.Stream = d.number()
			}
		case "N":
			f.N = d.number()
		case "Class":
			f.Class = d.below(8)
		case "Share":
			f.Share = 1 + d.below(255)
		case "Data":
			f.Data = d.text(1 + d.below(300))
			if d.below(30) == 0 {
				f.Data = d.text([]int{16383, 16384}[d.below(2)])
			}
		}
	}
	return f
}

// faultByBook is P17.1, word by word, with numbers that do not wrap round.
func faultByBook(f api.MuxFrame) api.Errno {
	if _, ok := ownFields()[f.Kind]; !ok {
		return api.ErrMuxKind
	}
	most := new(big.Int).Exp(big.NewInt(2), big.NewInt(62), nil)
	for _, n := range []uint64{f.Stream, f.N} {
		if new(big.Int).SetUint64(n).Cmp(most) > 0 {
			return api.ErrMuxNumber
		}
	}
	if len(f.Data) > 16384 {
		return api.ErrMuxLong
	}
	wrong := map[string]bool{
		"Stream": f.Stream == 0 && f.Kind != 3 && f.Kind != 9,
		"N":      false,
		"Class":  f.Class < 0 || f.Class > 7,
		"Share":  f.Share < 1 || f.Share > 255,
		"Data":   len(f.Data) == 0,
	}
	foreign := map[string]bool{"Stream": f.Stream != 0, "N": f.N != 0, "Class": f.Class != 0, "Share": f.Share != 0, "Data": len(f.Data) != 0}
	for field := range wrong {
		if owns(f.Kind, field) && wrong[field] || !owns(f.Kind, field) && foreign[field] {
			return api.ErrMuxField
		}
	}
	return api.OK
}

// bytesByBook is the chapter's table, with numbers by Go's library, which lays them down alike.
func bytesByBook(f api.MuxFrame) []byte {
	b := []byte{byte(f.Kind)}
	for _, field := range strings.Fields(ownFields()[f.Kind]) {
		switch field {
		case "Stream":
			b = binary.AppendUvarint(b, f.Stream)
		case "N":
			b = binary.AppendUvarint(b, f.N)
		case "Class":
			b = append(b, byte(f.Class))
		case "Share":
			b = append(b, byte(f.Share))
		case "Data":
			b = append(binary.AppendUvarint(b, uint64(len(f.Data))), f.Data...)
		}
	}
	return b
}

// numberByBook reads the number at the front of b, and says how many bytes it has.
func numberByBook(b []byte) (uint64, int, api.Errno) {
	last := slices.IndexFunc(b, func(x byte) bool { return x < 0x80 })
	if last < 0 && len(b) < 9 {
		return 0, 0, api.ErrMuxShort
	}
	if last < 0 || last > 8 {
		return 0, 0, api.ErrMuxNumber
	}
	n, size := binary.Uvarint(b[:last+1])
	if n > top || len(binary.AppendUvarint(nil, n)) != size {
		return 0, 0, api.ErrMuxNumber
	}
	return n, size, api.OK
}

// decodeByBook is P17.2, word by word.
func decodeByBook(b []byte) (api.MuxFrame, int, api.Errno) {
	if len(b) == 0 {
		return api.MuxFrame{}, 0, api.ErrMuxShort
	}
	f, at := api.MuxFrame{Kind: int(b[0])}, 1
	if f.Kind < 1 || f.Kind > 9 {
		return api.MuxFrame{}, 0, api.ErrMuxKind
	}
	for _, field := range strings.Fields(ownFields()[f.Kind]) {
		size, e := fieldByBook(&f, field, b[at:])
		if e != api.OK {
			return api.MuxFrame{}, 0, e
		}
		at += size
	}
	return f, at, api.OK
}

func fieldByBook(f *api.MuxFrame, field string, b []byte) (int, api.Errno) {
	if field == "Class" || field == "Share" {
		if len(b) == 0 {
			return 0, api.ErrMuxShort
		}
		if field == "Class" && b[0] > 7 || field == "Share" && b[0] == 0 {
			return 0, api.ErrMuxField
		}
		if field == "Class" {
			f.Class = int(b[0])
		} else {
			f.Share = int(b[0])
		}
		return 1, api.OK
	}
	n, size, e := numberByBook(b)
	switch {
	case e != api.OK:
		return 0, e
	case field == "N":
		f.N = n
	case field == "Stream":
		f.Stream = n
		if n == 0 && f.Kind != 3 && f.Kind != 9 {
			return 0, api.ErrMuxField
		}
	case n == 0:
		return 0, api.ErrMuxField
	case n > 16384:
		return 0, api.ErrMuxLong
	case len(b) < size+int(n):
		return 0, api.ErrMuxShort
	default:
		f.Data = b[size : size+int(n)]
		size += int(n)
	}
	return size, api.OK
}

// agrees holds Decode of b against the book, and what is taken against Encode. It answers the error.
func agrees(t *testing.T, b []byte) api.Errno {
	t.Helper()
	f, n, e := muxwire.Decode(b)
	want, size, err := decodeByBook(b)
	if e != err || n != size || !same(f, want) || e != api.OK && !isZero(f) {
		t.Fatalf("Decode of %x: %s, %d, %d; want %s, %d, %d", b[:min(len(b), 40)], told(f), n, e, told(want), size, err)
	}
	if e != api.OK {
		return e
	}
	again, e := muxwire.Encode(f)
	if e != api.OK || !bytes.Equal(again, b[:n]) || !muxwire.Fit(f) {
		t.Fatalf("%x is read as %s, which is written as %x, %d", b[:min(len(b), 40)], told(f), again[:min(len(again), 40)], e)
	}
	return api.OK
}

// P17.1: all fields at and around their bounds, each with each
func TestEncodeAgainstTheBook(t *testing.T) {
	count := map[api.Errno]int{}
	big := [][]byte{nil, {7}, fill(16384, 1), fill(16385, 1)}
	numbers := []uint64{0, 1, 127, 128, top - 1, top, top + 1, 1 << 63, math.MaxUint64}
	for _, kind := range []int{-1, 0, 1, 2, 3, 4, 5, 6, 7, 8, 9, 10, 257} {
		for _, stream := range numbers {
			for _, n := range numbers {
				for _, class := range []int{-1, 0, 7, 8} {
					for _, share := range []int{-1, 0, 1, 255, 256} {
						for _, data := range big {
							f := api.MuxFrame{Kind: kind, Stream: stream, N: n, Class: class, Share: share, Data: data}
							want := faultByBook(f)
							count[want]++
							encodes(t, "a frame", f, want)
							if b, _ := muxwire.Encode(f); want == api.OK && !bytes.Equal(b, bytesByBook(f)) {
								t.Errorf("Encode of %s: %x", told(f), b[:min(len(b), 40)])
							}
						}
					}
				}
			}
		}
	}
	for _, e := range []api.Errno{api.OK, api.ErrMuxKind, api.ErrMuxNumber, api.ErrMuxLong, api.ErrMuxField} {
		if count[e] < 100 {
			t.Errorf("only %d answers were %d", count[e], e)
		}
	}
}

// P17.2, P17.5: all short rows of bytes that mean something
func TestShortBytes(t *testing.T) {
	letters := []byte{0, 1, 2, 3, 4, 5, 6, 7, 8, 9, 10, 0x7f, 0x80, 0x81, 0xff}
	row := [][]byte{nil}
	for range 5 {
		var longer [][]byte
		for _, b := range row {
			agrees(t, b)
			for _, x := range letters {
				longer = append(longer, append(slices.Clone(b), x))
			}
		}
		row = longer
	}
}

// P17.4: there and back, with anything behind it; P17.5: no beginning of it is another frame
func TestThereAndBack(t *testing.T) {
	d := dice(174)
	count := map[int]int{}
	for range 4000 {
		f := d.fit()
		count[f.Kind]++
		b, e := muxwire.Encode(f)
		if e != api.OK || !bytes.Equal(b, bytesByBook(f)) {
			t.Fatalf("Encode of %s: %x, %d", told(f), b[:min(len(b), 40)], e)
		}
		g, n, e := muxwire.Decode(append(slices.Clone(b), d.text(d.below(40))...))
		if e != api.OK || n != len(b) || !same(f, g) {
			t.Fatalf("%s comes back as %s, %d, %d", told(f), told(g), n, e)
		}
		for range 20 {
			decodes(t, "a beginning", b[:d.below(len(b))], api.ErrMuxShort)
		}
	}
	for kind := 1; kind < api.NumMux; kind++ {
		if count[kind] < 100 {
			t.Errorf("only %d frames were of kind %d", count[kind], kind)
		}
	}
}

// nearly is the bytes of frames, changed here and there.
func (d *dice) nearly() []byte {
	var b []byte
	for range 1 + d.below(3) {
		b = append(b, bytesByBook(d.fit())...)
	}
	for range d.below(4) {
		if len(b) == 0 {
			break
		}
		near := d.below(min(len(b), 12))
		switch d.below(6) {
		case 0:
			b[near] = byte(d.below(256))
		case 1:
			b[near] ^= 1 << d.below(8)
		case 2:
			b[near] |= 0x80
		case 3:
			b = slices.Insert(b, near, 0x80)
		case 4:
			b = slices.Delete(b, near, near+1)
		case 5:
			b = b[:d.below(len(b)+1)]
		}
	}
	return b
}

// P17.2, P17.5: bytes of which some are nearly a frame, and any bytes
func TestDecodeAgainstTheBook(t *testing.T) {
	d := dice(175)
	count := map[api.Errno]int{}
	for range 40000 {
		count[agrees(t, d.nearly())]++
		loose := d.text(d.below(30))
		if len(loose) > 0 {
			loose[0] = byte(d.below(12))
		}
		count[agrees(t, loose)]++
	}
	for _, e := range []api.Errno{api.OK, api.ErrMuxKind, api.ErrMuxNumber, api.ErrMuxField, api.ErrMuxLong, api.ErrMuxShort} {
		if count[e] < 100 {
			t.Errorf("only %d answers were %d", count[e], e)
		}
	}
}
