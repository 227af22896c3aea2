package wire_test

import (
	"bytes"
	"encoding/hex"
	"hash/crc32"
	"math"
	"slices"
	"strings"
	"testing"

	"braid/api"
	"braid/wire"
)

// unhex takes digits with spaces where one likes.
func unhex(digits string) []byte {
	b, err := hex.DecodeString(strings.ReplaceAll(digits, " ", ""))
	if err != nil {
		panic(err)
	}
	return b
}

// summed is b with the short sum behind it, by Go's library.
func summed(b []byte) []byte {
	c := crc32.ChecksumIEEE(b)
	return append(slices.Clone(b), byte(c>>24), byte(c>>16), byte(c>>8), byte(c))
}

// same tells whether two frames are one; lists without anything are alike.
func same(a, b api.Frame) bool {
	return a.Kind == b.Kind && a.Path == b.Path && a.Num == b.Num && a.Off == b.Off && a.Edge == b.Edge &&
		bytes.Equal(a.Data, b.Data) && slices.Equal(a.Ranges, b.Ranges) && a.Token == b.Token &&
		a.Nonce == b.Nonce && bytes.Equal(a.Mac, b.Mac) && a.Backup == b.Backup && a.Which == b.Which
}

func isZero(f api.Frame) bool {
	return same(f, api.Frame{}) && f.Data == nil && f.Ranges == nil && f.Mac == nil
}

func fill(n int, x byte) []byte { return bytes.Repeat([]byte{x}, n) }

// eight ranges that are as near to one another as may be, the last one as high as may be.
func fullAck() []api.Range {
	var list []api.Range
	for i := range uint64(7) {
		list = append(list, api.Range{Lo: 2 * i, Hi: 2*i + 1})
	}
	return append(list, api.Range{Lo: 1 << 62, Hi: 1<<62 + 1})
}

type formed struct {
	name  string
	frame api.Frame
	body  string // all but the sum
}

// forms has each kind, at ordinary fields and at the ends of its bounds.
func forms() []formed {
	const top = "4000000000000000"
	mac8, mac20 := unhex("0102030405060708"), unhex("f0e0d0c0b0a090807060 504030201000ff0180fe")
	return []formed{
		{"data", api.Frame{Kind: 1, Path: 1, Off: 5, Data: []byte("ab")}, "01 01 0000000000000000 0000000000000005 0002 6162"},
		{"data far", api.Frame{Kind: 1, Path: 7, Num: 1 << 62, Off: 1<<62 - 1, Data: []byte{0}}, "01 07 " + top + "3fffffffffffffff 0001 00"},
		{"data long", api.Frame{Kind: 1, Num: 0x0123456789abcdef, Off: 1<<62 - 1024, Data: fill(1024, 0xc5)}, "01 00 0123456789abcdef 3ffffffffffffc00 0400" + strings.Repeat("c5", 1024)},
		{"data 258", api.Frame{Kind: 1, Path: 3, Num: 1, Data: fill(258, 7)}, "01 03 0000000000000001 0000000000000000 0102" + strings.Repeat("07", 258)},
		{"fin", api.Frame{Kind: 2, Path: 4, Num: 0x1122334455667788, Off: 0x2122232425262728}, "02 04 1122334455667788 2122232425262728"},
		{"fin zero", api.Frame{Kind: 2}, "02 00 0000000000000000 0000000000000000"},
		{"fin far", api.Frame{Kind: 2, Path: 7, Num: 1 << 62, Off: 1 << 62}, "02 07" + top + top},
		{"probe", api.Frame{Kind: 3, Path: 2, Num: 258}, "03 02 0000000000000102"},
		{"probe far", api.Frame{Kind: 3, Path: 7, Num: 1 << 62}, "03 07" + top},
		{"ack", api.Frame{Kind: 4, Ranges: []api.Range{{Hi: 3}, {Lo: 5, Hi: 6}}}, "04 00 02 0000000000000000 0000000000000003 0000000000000005 0000000000000006"},
		{"ack one", api.Frame{Kind: 4, Path: 7, Ranges: []api.Range{{Lo: 0, Hi: 1<<62 + 1}}}, "04 07 01 0000000000000000 4000000000000001"},
		{"ack full", api.Frame{Kind: 4, Path: 1, Ranges: fullAck()}, "04 01 08" +
			"0000000000000000 0000000000000001 0000000000000002 0000000000000003 0000000000000004 0000000000000005" +
			"0000000000000006 0000000000000007 0000000000000008 0000000000000009 000000000000000a 000000000000000b" +
			"000000000000000c 000000000000000d 4000000000000000 4000000000000001"},
		{"dack", api.Frame{Kind: 5, Path: 6, Off: 0x0102030405060708, Edge: 0x1112131415161718}, "05 06 0102030405060708 1112131415161718"},
		{"dack zero", api.Frame{Kind: 5}, "05 00 0000000000000000 0000000000000000"},
		{"dack far", api.Frame{Kind: 5, Path: 7, Off: 1<<62 + 1, Edge: 1 << 63}, "05 07 4000000000000001 8000000000000000"},
		{"rst", api.Frame{Kind: 6, Path: 5, Token: 0x01020304}, "06 05 01020304"},
		{"rst zero", api.Frame{Kind: 6}, "06 00 00000000"},
		{"rst far", api.Frame{Kind: 6, Path: 7, Token: math.MaxUint32}, "06 07 ffffffff"},
		{"join", api.Frame{Kind: 7, Path: 1, Token: 0x01020304, Nonce: 0x05060708, Backup: true}, "07 01 01020304 05060708 01"},
		{"join zero", api.Frame{Kind: 7}, "07 00 00000000 00000000 00"},
		{"join far", api.Frame{Kind: 7, Path: 7, Token: math.MaxUint32, Nonce: math.MaxUint32}, "07 07 ffffffff ffffffff 00"},
		{"joined", api.Frame{Kind: 8, Path: 2, Nonce: 0xa1a2a3a4, Mac: mac8}, "08 02 a1a2a3a4 0102030405060708"},
		{"joined zero", api.Frame{Kind: 8, Mac: fill(8, 0)}, "08 00 00000000 0000000000000000"},
		{"prove", api.Frame{Kind: 9, Path: 3, Mac: mac20}, "09 03 f0e0d0c0b0a090807060 504030201000ff0180fe"},
		{"prove zero", api.Frame{Kind: 9, Mac: fill(20, 0)}, "09 00 00000000000000000000 00000000000000000000"},
		{"prio on", api.Frame{Kind: 10, Backup: true}, "0a 00 01"},
		{"prio off", api.Frame{Kind: 10, Path: 7}, "0a 07 00"},
		{"gone", api.Frame{Kind: 11, Path: 1, Which: 0}, "0b 01 00"},
		{"gone far", api.Frame{Kind: 11, Path: 0, Which: 7}, "0b 00 07"},
	}
}

// P3.1, P3.2, P3.3, P3.4; examples 1, 2, 3
func TestFormOfEachKind(t *testing.T) {
	seen := map[int]bool{}
	for _, x := range forms() {
		seen[x.frame.Kind] = true
		if !wire.Fit(x.frame) {
			t.Errorf("%s: not fit", x.name)
		}
		bytesWanted := summed(unhex(x.body))
		b, e := wire.Encode(x.frame)
		if e != api.OK || !bytes.Equal(b, bytesWanted) {
			t.Errorf("Encode of %s: %x, %d; want %x", x.name, b, e, bytesWanted)
		}
		f, e := wire.Decode(bytesWanted)
		if e != api.OK || !same(f, x.frame) {
			t.Errorf("Decode of %s: %v, %d; want %v", x.name, f, e, x.frame)
		}
		if !wire.Fit(f) {
			t.Errorf("Decode of %s: not fit", x.name)
		}
	}
	if len(seen) != api.NumKinds-1 {
		t.Errorf("%d kinds were tried", len(seen))
	}
}

// P3.2: the sum as a number, not by any library
func TestSumStandsBehind(t *testing.T) {
	b, _ := wire.Encode(api.Frame{Kind: api.KindPrio, Backup: true})
	if got := hex.EncodeToString(b); got != "0a000185d16c52" {
		t.Errorf("PRIO: %s", got)
	}
}

// P3.1, P3.2: none of the eleven, whatever else the frame has; a kind is not cut down to a byte
func TestNoKind(t *testing.T) {
	for _, kind := range []int{0, -1, 12, 13, 255, 256, 257, 267, -255, 1 << 32, 1<<32 + 3, math.MaxInt, math.MinInt} {
		for _, f := range []api.Frame{{Kind: kind}, {Kind: kind, Path: 9, Num: 1, Data: []byte("x")}} {
			b, e := wire.Encode(f)
			if wire.Fit(f) || b != nil || e != api.ErrKind {
				t.Errorf("kind %d: %v, %x, %d", kind, wire.Fit(f), b, e)
			}
		}
	}
}

func refused(t *testing.T, what string, f api.Frame) {
	t.Helper()
	b, e := wire.Encode(f)
	if wire.Fit(f) || b != nil || e != api.ErrField {
		t.Errorf("%s: fit %v, Encode gives %d bytes, %d", what, wire.Fit(f), len(b), e)
	}
}

// P3.1, P3.2: a path is 0 to 7 in all kinds
func TestPathOutOfBounds(t *testing.T) {
	for _, x := range forms() {
		for _, path := range []int{-1, 8, 9, 255, 256, 263, math.MaxInt, math.MinInt} {
			x.frame.Path = path
			refused(t, x.name, x.frame)
		}
		for path := range api.MaxPaths {
			x.frame.Path = path
			if b, e := wire.Encode(x.frame); e != api.OK || int(b[1]) != path {
				t.Errorf("%s on path %d: %d", x.name, path, e)
			}
		}
	}
}

// P3.1, P3.2, examples 4 and 6: each bound, one beyond it
func TestFieldOutOfBounds(t *testing.T) {
	one := []byte{1}
	ack := func(list ...api.Range) api.Frame { return api.Frame{Kind: api.KindAck, Ranges: list} }
	for name, f := range map[string]api.Frame{
		"data without":      {Kind: 1},
		"data empty":        {Kind: 1, Data: []byte{}},
		"data too long":     {Kind: 1, Data: fill(1025, 0)},
		"data 65537":        {Kind: 1, Data: fill(65537, 0)},
		"data number":       {Kind: 1, Num: 1<<62 + 1, Data: one},
		"data at the end":   {Kind: 1, Off: 1 << 62, Data: one},
		"data over it":      {Kind: 1, Off: 1<<62 - 1023, Data: fill(1024, 0)},
		"data wraps":        {Kind: 1, Off: math.MaxUint64, Data: one},
		"data wraps far":    {Kind: 1, Off: math.MaxUint64 - 1023, Data: fill(1024, 0)},
		"fin number":        {Kind: 2, Num: 1<<62 + 1},
		"fin offset":        {Kind: 2, Off: 1<<62 + 1},
		"fin offset far":    {Kind: 2, Off: math.MaxUint64},
		"probe number":      {Kind: 3, Num: 1<<62 + 1},
		"probe number far":  {Kind: 3, Num: math.MaxUint64},
		"ack without":       ack(),
		"ack empty":         {Kind: 4, Ranges: []api.Range{}},
		"ack of nine":       ack(append(fullAck()[:7], api.Range{Lo: 20, Hi: 21}, api.Range{Lo: 30, Hi: 31})...),
		"ack of none":       ack(api.Range{Lo: 3, Hi: 3}),
		"ack turned":        ack(api.Range{Lo: 4, Hi: 3}),
		"ack second turned": ack(api.Range{Lo: 0, Hi: 1}, api.Range{Lo: 9, Hi: 8}),
		"ack touching":      ack(api.Range{Lo: 0, Hi: 3}, api.Range{Lo: 3, Hi: 4}),
		"ack crossing":      ack(api.Range{Lo: 0, Hi: 3}, api.Range{Lo: 2, Hi: 4}),
		"ack falling":       ack(api.Range{Lo: 5, Hi: 6}, api.Range{Lo: 0, Hi: 3}),
		"ack third touches": ack(api.Range{Lo: 0, Hi: 1}, api.Range{Lo: 2, Hi: 3}, api.Range{Lo: 3, Hi: 4}),
		"ack too far":       ack(api.Range{Lo: 0, Hi: 1<<62 + 2}),
		"ack far":           ack(api.Range{Lo: 0, Hi: 1}, api.Range{Lo: 2, Hi: math.MaxUint64}),
		"dack offset":       {Kind: 5, Off: 1<<62 + 2},
		"dack edge":         {Kind: 5, Edge: 1<<63 + 1},
		"dack edge far":     {Kind: 5, Edge: math.MaxUint64},
		"joined without":    {Kind: 8},
		"joined short":      {Kind: 8, Mac: fill(7, 1)},
		"joined long":       {Kind: 8, Mac: fill(9, 1)},
		"joined of 20":      {Kind: 8, Mac: fill(20, 1)},
		"prove without":     {Kind: 9},
		"prove short":       {Kind: 9, Mac: fill(19, 1)},
		"prove long":        {Kind: 9, Mac: fill(21, 1)},
		"prove of 8":        {Kind: 9, Mac: fill(8, 1)},
		"gone below":        {Kind: 11, Which: -1},
		"gone above":        {Kind: 11, Which: 8},
		"gone 256":          {Kind: 11, Which: 256},
		"gone far":          {Kind: 11, Which: math.MinInt},
	} {
		refused(t, name, f)
	}
}

// fields are the ways to lay something into one field, by the field's name.
func fields() map[string]func(*api.Frame) {
	return map[string]func(*api.Frame){
		"Num":    func(f *api.Frame) { f.Num = 1 },
		"Off":    func(f *api.Frame) { f.Off = 1 },
		"Edge":   func(f *api.Frame) { f.Edge = 1 },
		"Data":   func(f *api.Frame) { f.Data = []byte{0} },
		"Ranges": func(f *api.Frame) { f.Ranges = []api.Range{{}} },
		"Token":  func(f *api.Frame) { f.Token = 1 },
		"Nonce":  func(f *api.Frame) { f.Nonce = 1 },
		"Mac":    func(f *api.Frame) { f.Mac = []byte{0} },
		"Backup": func(f *api.Frame) { f.Backup = true },
		"Which":  func(f *api.Frame) { f.Which = 1 },
	}
}

func ownFields() map[int]string {
	return map[int]string{
		1: "Num Off Data", 2: "Num Off", 3: "Num", 4: "Ranges", 5: "Off Edge", 6: "Token",
		7: "Token Nonce Backup", 8: "Nonce Mac", 9: "Mac", 10: "Backup", 11: "Which",
	}
}

// P3.1, example 4: a field of another kind must be zero
func TestFieldOfAnotherKind(t *testing.T) {
	own := ownFields()
	for _, x := range forms() {
		for name, set := range fields() {
			if slices.Contains(strings.Fields(own[x.frame.Kind]), name) {
				continue
			}
			f := x.frame
			set(&f)
			refused(t, x.name+" with "+name, f)
		}
	}
}

// P3.1: a list that is empty is zero
func TestEmptyListsOfAnotherKind(t *testing.T) {
	for _, x := range forms() {
		f := x.frame
		if f.Data == nil {
			f.Data = make([]byte, 0, 5)
		}
		if f.Ranges == nil {
			f.Ranges = make([]api.Range, 0, 5)
		}
		if f.Mac == nil {
			f.Mac = []byte{}
		}
		b, e := wire.Encode(f)
		if !wire.Fit(f) || e != api.OK || !bytes.Equal(b, summed(unhex(x.body))) {
			t.Errorf("%s with empty lists: %d", x.name, e)
		}
	}
}

// decodes holds Decode of b against an error; with an error the frame is zero.
func decodes(t *testing.T, what string, b []byte, wanted api.Errno) {
	t.Helper()
	f, e := wire.Decode(b)
	if e != wanted {
		t.Errorf("Decode of %s: %d, want %d", what, e, wanted)
	}
	if e != api.OK && !isZero(f) {
		t.Errorf("Decode of %s: %d, and a frame: %v", what, e, f)
	}
}

// P3.3: the first error that applies, example 5
func TestErrorsInTheirOrder(t *testing.T) {
	decodes(t, "nothing", nil, api.ErrShort)
	for n := range 7 {
		decodes(t, "few bytes", make([]byte, n), api.ErrShort)
		decodes(t, "few bytes", fill(n, 0xff), api.ErrShort)
	}
	for _, n := range []int{4, 5, 6} {
		decodes(t, "few bytes, well summed", summed(fill(n-4, 10)), api.ErrShort)
	}
	for _, n := range []int{1049, 1050, 5000, 1 << 20} {
		decodes(t, "many bytes", make([]byte, n), api.ErrLong)
		long := summed(append(unhex("01 00 0000000000000000 0000000000000000 0401"), make([]byte, n-24)...))
		decodes(t, "many bytes, well summed", long, api.ErrLong)
	}
	decodes(t, "7 bytes without a sum", fill(7, 0x0c), api.ErrSum)
	decodes(t, "1048 bytes without a sum", fill(1048, 0x0c), api.ErrSum)
	decodes(t, "no kind, wrong path, 7 bytes", summed(unhex("00 ff ff")), api.ErrKind)
	decodes(t, "no kind, 1048 bytes", summed(make([]byte, 1044)), api.ErrKind)
	decodes(t, "wrong size and path and flag", summed(unhex("0a ff ff 00")), api.ErrSize)
	decodes(t, "wrong path", summed(unhex("0a 08 01")), api.ErrField)
	decodes(t, "wrong flag", summed(unhex("0a 00 02")), api.ErrField)
	decodes(t, "example: PROBE of 7 bytes", summed(unhex("03 02 00")), api.ErrSize)
	decodes(t, "example: no range", summed(unhex("04 00 00")), api.ErrField)
}

// P3.3: a first byte that is no kind
func TestFirstByteNoKind(t *testing.T) {
	for kind := range 256 {
		if kind >= 1 && kind <= 11 {
			continue
		}
		for _, n := range []int{3, 6, 10, 18, 20, 22, 1044} {
			b := make([]byte, n)
			b[0] = byte(kind)
			decodes(t, "no kind", summed(b), api.ErrKind)
		}
	}
}

// P3.3: each kind with every number of bytes
func TestEveryNumberOfBytes(t *testing.T) {
	fixed := map[byte]int{2: 22, 3: 14, 5: 22, 6: 10, 7: 15, 8: 18, 9: 26, 10: 7, 11: 7}
	for kind, n := range fixed {
		for size := 7; size <= 1048; size++ {
			b := make([]byte, size-4)
			b[0] = kind
			wanted := api.ErrSize
			if size == n {
				wanted = api.OK
			}
			decodes(t, "a kind of one size", summed(b), wanted)
		}
	}
}

// P3.3: DATA has 24 bytes and what its length says
func TestSizesOfData(t *testing.T) {
	for size := 7; size <= 1048; size++ {
		for _, length := range []int{0, 1, 2, 255, 256, 1023, 1024, 1025, 65535, size - 24, size - 25, size - 23} {
			b := make([]byte, size-4)
			b[0] = api.KindData
			if size < 24 {
				decodes(t, "short DATA", summed(b), api.ErrSize)
				continue
			}
			length = max(length, 0)
			b[18], b[19] = byte(length>>8), byte(length)
			wanted := api.ErrSize
			if size == 24+length {
				wanted = api.OK
			}
			if size == 24 && length == 0 {
				wanted = api.ErrField
			}
			decodes(t, "DATA", summed(b), wanted)
		}
	}
}

// P3.3: ACK has 7 bytes and 16 times its number, whatever that number is
func TestSizesOfAck(t *testing.T) {
	for count := range 256 {
		for size := 7; size <= 1048; size++ {
			b := make([]byte, size-4)
			b[0], b[2] = api.KindAck, byte(count)
			for i := 0; 3+16*i+16 <= len(b); i++ {
				b[3+16*i+7], b[3+16*i+15] = byte(2*i), byte(2*i+1)
			}
			wanted := api.ErrSize
			if size == 7+16*count {
				wanted = api.ErrField
				if count >= 1 && count <= api.MaxRanges {
					wanted = api.OK
				}
			}
			decodes(t, "ACK", summed(b), wanted)
		}
	}
}

// P3.3: a field out of its bounds, in bytes; example 6
func TestBytesOutOfBounds(t *testing.T) {
	for _, x := range []struct {
		body   string
		wanted api.Errno
	}{
		{"01 00 4000000000000001 0000000000000000 0001 61", api.ErrField},
		{"01 00 0000000000000000 4000000000000000 0001 61", api.ErrField},
		{"01 00 0000000000000000 3fffffffffffffff 0001 61", api.OK},
		{"01 00 0000000000000000 3fffffffffffffff 0002 6161", api.ErrField},
		{"01 00 0000000000000000 ffffffffffffffff 0001 61", api.ErrField},
		{"01 08 0000000000000000 0000000000000000 0001 61", api.ErrField},
		{"02 00 4000000000000001 0000000000000000", api.ErrField},
		{"02 00 0000000000000000 4000000000000001", api.ErrField},
		{"02 00 0000000000000000 4000000000000000", api.OK},
		{"03 00 4000000000000000", api.OK},
		{"03 00 4000000000000001", api.ErrField},
		{"03 ff 0000000000000000", api.ErrField},
		{"04 00 01 0000000000000000 0000000000000000", api.ErrField},
		{"04 00 01 0000000000000002 0000000000000001", api.ErrField},
		{"04 00 01 4000000000000000 4000000000000001", api.OK},
		{"04 00 01 4000000000000000 4000000000000002", api.ErrField},
		{"04 00 02 0000000000000000 0000000000000003 0000000000000003 0000000000000004", api.ErrField},
		{"04 00 02 0000000000000000 0000000000000003 0000000000000004 0000000000000005", api.OK},
		{"05 00 4000000000000001 8000000000000000", api.OK},
		{"05 00 4000000000000002 8000000000000000", api.ErrField},
		{"05 00 4000000000000001 8000000000000001", api.ErrField},
		{"06 08 00000000", api.ErrField},
		{"08 08 00000000 0000000000000000", api.ErrField},
		{"0b 00 07", api.OK},
		{"0b 00 08", api.ErrField},
		{"0b 08 07", api.ErrField},
		{"0b 00 ff", api.ErrField},
	} {
		decodes(t, x.body, summed(unhex(x.body)), x.wanted)
	}
}

// P3.3, P3.5: a flag is 0 or 1
func TestFlags(t *testing.T) {
	for x := range 256 {
		wanted := api.ErrField
		if x <= 1 {
			wanted = api.OK
		}
		prio := summed([]byte{api.KindPrio, 0, byte(x)})
		decodes(t, "PRIO", prio, wanted)
		join := summed([]byte{api.KindJoin, 0, 1, 2, 3, 4, 5, 6, 7, 8, byte(x)})
		decodes(t, "JOIN", join, wanted)
		if x > 1 {
			continue
		}
		for _, b := range [][]byte{prio, join} {
			if f, _ := wire.Decode(b); f.Backup != (x == 1) {
				t.Errorf("flag %d is read as %v", x, f.Backup)
			}
		}
	}
}

// P3.6: whatever byte is changed, and however
func TestOneByteChanged(t *testing.T) {
	for _, x := range forms() {
		b := summed(unhex(x.body))
		step := 1
		if len(b) > 200 {
			step = 31 // all changes of a long frame would take seconds
		}
		for i := range b {
			for mask := 1; mask < 256; mask += step {
				b[i] ^= byte(mask)
				if f, e := wire.Decode(b); e != api.ErrSum || !isZero(f) {
					t.Fatalf("%s with byte %d turned by %02x: %d", x.name, i, mask, e)
				}
				b[i] ^= byte(mask)
			}
		}
		decodes(t, x.name, b, api.OK)
	}
}

// turn changes the bits of b from bit at on, counted from each byte's lowest, where burst has a one.
func turn(b []byte, at int, burst uint32) {
	for i := range 32 {
		if burst>>i&1 == 1 {
			b[(at+i)/8] ^= 1 << ((at + i) % 8)
		}
	}
}

// P3.6: changes within 32 bits side by side, ahead of the sum
func TestBurstOfChanges(t *testing.T) {
	d := dice(36)
	for _, x := range forms() {
		b := summed(unhex(x.body))
		bits := 8 * (len(b) - 4)
		for at := range bits {
			for range 20 {
				burst := uint32(d.below(1<<31))<<1 | 1
				if left := bits - at; left < 32 {
					burst &= 1<<left - 1
				}
				if d.below(2) == 0 {
					burst &= 1<<d.below(32) - 1 | 1
				}
				turn(b, at, burst)
				if _, e := wire.Decode(b); e != api.ErrSum {
					t.Fatalf("%s turned by %08x from bit %d on: %d", x.name, burst, at, e)
				}
				turn(b, at, burst)
			}
		}
	}
}

// P3.7: what is taken is not the beginning of something longer that is taken
func TestNoBeginningOfAnother(t *testing.T) {
	d := dice(37)
	for _, x := range forms() {
		b := summed(unhex(x.body))
		for more := 4; len(b)+more <= api.MaxFrame+20 && more < 300; more++ {
			longer := summed(append(slices.Clone(b), d.text(more-4)...))
			wanted := api.ErrSize
			if len(longer) > api.MaxFrame {
				wanted = api.ErrLong
			}
			decodes(t, x.name+" and more", longer, wanted)
		}
		for n := range b {
			if _, e := wire.Decode(b[:n]); e == api.OK {
				t.Errorf("%s: its first %d bytes are taken", x.name, n)
			}
		}
	}
	// a DATA frame within a DATA frame: the inner bytes bear their own sum
	inner := unhex("01 00 0000000000000000 0000000000000000 0004 01020304")
	outer := append(slices.Clone(inner), summed(inner)[len(inner):]...)
	decodes(t, "DATA that goes on behind its sum", summed(outer), api.ErrSize)
}

// 0.4: what is handed in is not changed, nor its spare room; what is handed out is new
func TestMemoryOfEncode(t *testing.T) {
	for _, x := range forms() {
		f := x.frame
		f.Data, f.Ranges, f.Mac = spare(f.Data, 0xee), spare(f.Ranges, api.Range{Lo: 77, Hi: 88}), spare(f.Mac, 0xdd)
		kept := api.Frame{Data: slices.Clone(whole(f.Data)), Ranges: slices.Clone(whole(f.Ranges)), Mac: slices.Clone(whole(f.Mac))}
		b, e := wire.Encode(f)
		if e != api.OK {
			t.Fatalf("%s: %d", x.name, e)
		}
		overwrite(whole(b), 0x99)
		if !bytes.Equal(whole(f.Data), kept.Data) || !slices.Equal(whole(f.Ranges), kept.Ranges) || !bytes.Equal(whole(f.Mac), kept.Mac) {
			t.Errorf("%s: what was handed in has changed", x.name)
		}
		b, _ = wire.Encode(f)
		other, _ := wire.Encode(f)
		overwrite(whole(f.Data), 0x98)
		overwrite(whole(f.Mac), 0x98)
		overwrite(whole(f.Ranges), api.Range{})
		overwrite(whole(other), 0x97)
		if !bytes.Equal(b, summed(unhex(x.body))) {
			t.Errorf("%s: what was handed out has changed", x.name)
		}
	}
}

// 0.4, and P3.7's last sentence
func TestMemoryOfDecode(t *testing.T) {
	for _, x := range forms() {
		taken := summed(unhex(x.body))
		b := spare(taken, 0xee)
		kept := slices.Clone(whole(b))
		f, e := wire.Decode(b)
		other, _ := wire.Decode(b)
		if e != api.OK || !bytes.Equal(whole(b), kept) {
			t.Fatalf("%s: %d, or what was handed in has changed", x.name, e)
		}
		overwrite(whole(other.Data), 0x97)
		overwrite(whole(other.Mac), 0x97)
		overwrite(whole(other.Ranges), api.Range{Lo: 5, Hi: 4})
		if !bytes.Equal(whole(b), kept) {
			t.Errorf("%s: a frame shares memory with its bytes", x.name)
		}
		overwrite(whole(b), 0x96)
		if !same(f, x.frame) {
			t.Errorf("%s: a frame that was handed out has changed", x.name)
		}
	}
	for _, b := range [][]byte{fill(6, 1), fill(9, 1), fill(1049, 1), summed(unhex("0a 00 02"))} {
		b = spare(b, 0xee)
		kept := slices.Clone(whole(b))
		wire.Decode(b)
		if !bytes.Equal(whole(b), kept) {
			t.Errorf("%x: refused, and changed", kept)
		}
	}
}

// spare is list with room behind it that is full of x; a list of nothing stays as it is.
func spare[T any](list []T, x T) []T {
	if list == nil {
		return nil
	}
	out := slices.Clone(list)
	for range 40 {
		out = append(out, x)
	}
	return out[:len(list)]
}

func whole[T any](list []T) []T { return list[:cap(list)] }

func overwrite[T any](list []T, x T) {
	for i := range list {
		list[i] = x
	}
}
