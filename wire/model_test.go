package wire_test

import (
	"bytes"
	"math/big"
	"testing"

	"braid/api"
	"braid/wire"
)

// dice gives the same row of numbers in every run.
type dice uint64

func (d *dice) below(n int) int {
	*d = *d*6364136223846793005 + 1442695040888963407
	return int(uint64(*d) >> 33 % uint64(n))
}

func (d *dice) text(n int) []byte {
	b := make([]byte, n)
	for i := range b {
		b[i] = byte(d.below(256))
	}
	return b
}

// number is one near 0, near a bound, or any.
func (d *dice) number() uint64 {
	switch d.below(6) {
	case 0:
		return uint64(d.below(4))
	case 1:
		return 1<<62 - 2 + uint64(d.below(5))
	case 2:
		return 1<<63 - 2 + uint64(d.below(5))
	case 3:
		return -uint64(d.below(3))
	case 4:
		return uint64(d.below(1 << 20))
	}
	return uint64(d.below(1<<31))<<33 ^ uint64(d.below(1<<31))
}

// frame is any frame: many of them are fit, many are nearly so.
func (d *dice) frame() api.Frame {
	f := api.Frame{Kind: 1 + d.below(11), Path: d.below(8)}
	own := ownFields()[f.Kind]
	has := func(name string) bool { return bytes.Contains([]byte(own), []byte(name)) || d.below(200) == 0 }
	if has("Num") {
		f.Num = d.number()
	}
	if has("Off") {
		f.Off = d.number()
	}
	if has("Edge") {
		f.Edge = d.number()
	}
	if has("Data") {
		f.Data = d.text([]int{0, 1, 2, 17, 255, 256, 1023, 1024, 1025}[d.below(9)])
	}
	if has("Ranges") {
		f.Ranges = d.ranges()
	}
	if has("Token") {
		f.Token = uint32(d.number())
	}
	if has("Nonce") {
		f.Nonce = uint32(d.number())
	}
	if has("Mac") {
		f.Mac = d.text([]int{8, 20, 8, 20, 7, 9, 19, 21, 0}[d.below(9)])
	}
	if has("Backup") {
		f.Backup = d.below(2) == 0
	}
	if has("Which") {
		f.Which = d.below(10) - 1
	}
	if d.below(50) == 0 {
		f.Path = d.below(12) - 2
	}
	return f
}

func (d *dice) ranges() []api.Range {
	var list []api.Range
	at := uint64(0)
	if d.below(4) == 0 {
		at = 1<<62 - uint64(d.below(30))
	}
	for range d.below(11) {
		at += uint64(d.below(20))
		r := api.Range{Lo: at, Hi: at + uint64(d.below(12))}
		list = append(list, r)
		at = r.Hi
	}
	return list
}

// fitByBook is P3.1 and the table, word by word, with numbers that do not wrap round.
func fitByBook(f api.Frame) bool {
	if f.Kind < 1 || f.Kind > 11 || f.Path < 0 || f.Path > 7 {
		return false
	}
	set := map[string]bool{
		"Num": f.Num != 0, "Off": f.Off != 0, "Edge": f.Edge != 0, "Data": len(f.Data) != 0, "Ranges": len(f.Ranges) != 0,
		"Token": f.Token != 0, "Nonce": f.Nonce != 0, "Mac": len(f.Mac) != 0, "Backup": f.Backup, "Which": f.Which != 0,
	}
	for name, is := range set {
		if is && !bytes.Contains([]byte(ownFields()[f.Kind]), []byte(name)) {
			return false
		}
	}
	most := func(n uint64, power uint, more int64) bool {
		bound := new(big.Int).Lsh(big.NewInt(1), power)
		return new(big.Int).SetUint64(n).Cmp(bound.Add(bound, big.NewInt(more))) <= 0
	}
	switch f.Kind {
	case api.KindData:
		n := len(f.Data)
		return most(f.Num, 62, 0) && n >= 1 && n <= 1024 && most(f.Off, 62, int64(-n))
	case api.KindFin:
		return most(f.Num, 62, 0) && most(f.Off, 62, 0)
	case api.KindProbe:
		return most(f.Num, 62, 0)
	case api.KindAck:
		ok := len(f.Ranges) >= 1 && len(f.Ranges) <= 8
		for i, r := range f.Ranges {
			ok = ok && r.Lo < r.Hi && most(r.Hi, 62, 1) && (i == 0 || r.Lo > f.Ranges[i-1].Hi)
		}
		return ok
	case api.KindDack:
		return most(f.Off, 62, 1) && most(f.Edge, 63, 0)
	case api.KindJoined:
		return len(f.Mac) == 8
	case api.KindProve:
		return len(f.Mac) == 20
	case api.KindGone:
		return f.Which >= 0 && f.Which <= 7
	}
	return true
}

// P3.1, P3.2, P3.4 against the table
func TestFramesAgainstTheBook(t *testing.T) {
	d := dice(34)
	fit := map[int]int{}
	for range 60000 {
		f := d.frame()
		wanted := fitByBook(f)
		if wire.Fit(f) != wanted {
			t.Fatalf("Fit of %v: not %v", f, wanted)
		}
		b, e := wire.Encode(f)
		if !wanted {
			if b != nil || e != api.ErrField {
				t.Fatalf("Encode of %v: %x, %d", f, b, e)
			}
			continue
		}
		fit[f.Kind]++
		g, e2 := wire.Decode(b)
		if e != api.OK || e2 != api.OK || !same(f, g) {
			t.Fatalf("%v goes out and comes back as %v, %d, %d", f, g, e, e2)
		}
		if len(b) > api.MaxFrame || !bytes.Equal(b, summed(b[:len(b)-4])) {
			t.Fatalf("Encode of %v: %x", f, b)
		}
	}
	for kind := 1; kind < api.NumKinds; kind++ {
		if fit[kind] < 100 {
			t.Errorf("only %d frames of kind %d were fit", fit[kind], kind)
		}
	}
}

// P3.3, P3.5: bytes of which some are nearly a frame, with a sum that is theirs
func TestBytesHaveOneForm(t *testing.T) {
	d := dice(35)
	count := map[api.Errno]int{}
	for range 150000 {
		b := d.nearly()
		f, e := wire.Decode(b)
		count[e]++
		if e != api.OK {
			if !isZero(f) {
				t.Fatalf("%x: %d, and %v", b, e, f)
			}
			continue
		}
		again, e := wire.Encode(f)
		if e != api.OK || !bytes.Equal(again, b) || !wire.Fit(f) || !fitByBook(f) {
			t.Fatalf("%x is read as %v, which is written as %x, %d", b, f, again, e)
		}
	}
	for _, e := range []api.Errno{api.OK, api.ErrSum, api.ErrKind, api.ErrSize, api.ErrField} {
		if count[e] < 100 {
			t.Errorf("only %d answers were %d", count[e], e)
		}
	}
}

// nearly is a frame's bytes, changed here and there, mostly with the sum made good again.
func (d *dice) nearly() []byte {
	all := forms()
	b := unhex(all[d.below(len(all))].body)
	for range d.below(4) {
		switch d.below(5) {
		case 0:
			b[d.below(len(b))] = byte(d.below(256))
		case 1:
			b[d.below(len(b))] ^= 1 << d.below(8)
		case 2:
			b[d.below(min(3, len(b)))] = byte(d.below(14))
		case 3:
			b = append(b, d.text(d.below(18))...)
		case 4:
			b = b[:max(3, len(b)-d.below(18))]
		}
	}
	b = summed(b)
	if d.below(20) == 0 {
		b[d.below(len(b))]++
	}
	return b
}

// 0.1: no bytes make it panic
func TestAnyBytes(t *testing.T) {
	d := dice(31)
	for n := range 1060 {
		for range 10 {
			b := d.text(n)
			if _, e := wire.Decode(b); e == api.OK {
				t.Fatalf("%x is taken", b)
			}
			if n > 0 {
				b[0] = byte(d.below(13))
			}
			wire.Decode(summed(b))
		}
	}
}
