package muxwire_test

import (
	"bytes"
	"encoding/hex"
	"math"
	"slices"
	"strings"
	"testing"

	"braid/api"
	"braid/muxwire"
)

const top = 1 << 62

// unhex takes digits with spaces where one likes.
func unhex(digits string) []byte {
	b, err := hex.DecodeString(strings.ReplaceAll(digits, " ", ""))
	if err != nil {
		panic(err)
	}
	return b
}

// same tells whether two frames are one; Data without anything is alike.
func same(a, b api.MuxFrame) bool {
	return a.Kind == b.Kind && a.Stream == b.Stream && a.N == b.N && a.Class == b.Class && a.Share == b.Share && bytes.Equal(a.Data, b.Data)
}

func isZero(f api.MuxFrame) bool { return same(f, api.MuxFrame{}) && f.Data == nil }

func fill(n int, x byte) []byte { return bytes.Repeat([]byte{x}, n) }

// told is a frame as a failure tells it, without thousands of bytes.
func told(f api.MuxFrame) string {
	return strings.Join([]string{
		"kind", digits(int64(f.Kind)), "stream", digits(int64(f.Stream)), "n", digits(int64(f.N)),
		"class", digits(int64(f.Class)), "share", digits(int64(f.Share)), "bytes", digits(int64(len(f.Data))),
	}, " ")
}

type formed struct {
	name  string
	frame api.MuxFrame
	bytes []byte
}

// forms has each kind, at ordinary fields and at the ends of its bounds.
func forms() []formed {
	const topBytes = "80 80 80 80 80 80 80 80 40"
	open := func(stream uint64, class, share int) api.MuxFrame {
		return api.MuxFrame{Kind: api.MuxOpen, Stream: stream, Class: class, Share: share}
	}
	data := func(stream uint64, n int) api.MuxFrame {
		return api.MuxFrame{Kind: api.MuxBytes, Stream: stream, Data: fill(n, 'x')}
	}
	two := func(kind int, stream, n uint64) api.MuxFrame {
		return api.MuxFrame{Kind: kind, Stream: stream, N: n}
	}
	list := []formed{
		{"OPEN, least", open(1, 0, 1), unhex("01 01 00 01")},
		{"OPEN, example 1", open(300, 2, 5), unhex("01 ac 02 02 05")},
		{"OPEN, greatest", open(top, 7, 255), unhex("01" + topBytes + "07 ff")},
		{"OPEN, one below", open(top-1, 6, 254), unhex("01 ff ff ff ff ff ff ff ff 3f 06 fe")},
		{"BYTES, least", data(1, 1), unhex("02 01 01 78")},
		{"BYTES, example 1", api.MuxFrame{Kind: api.MuxBytes, Stream: 1, Data: []byte("ab")}, unhex("02 01 02 61 62")},
		{"BYTES, 127 of them", data(127, 127), append(unhex("02 7f 7f"), fill(127, 'x')...)},
		{"BYTES, 128 of them", data(128, 128), append(unhex("02 80 01 80 01"), fill(128, 'x')...)},
		{"BYTES, one below", data(5, 16383), append(unhex("02 05 ff 7f"), fill(16383, 'x')...)},
		{"BYTES, greatest", data(top, 16384), append(unhex("02"+topBytes+"80 80 01"), fill(16384, 'x')...)},
		{"ROOM, least", two(api.MuxRoom, 0, 0), unhex("03 00 00")},
		{"ROOM, example 1", two(api.MuxRoom, 0, 16384), unhex("03 00 80 80 01")},
		{"ROOM of a stream", two(api.MuxRoom, 3, 200), unhex("03 03 c8 01")},
		{"ROOM, greatest", two(api.MuxRoom, top, top), unhex("03" + topBytes + topBytes)},
		{"END, least", two(api.MuxEnd, 1, 0), unhex("04 01")},
		{"END, greatest", two(api.MuxEnd, top, 0), unhex("04" + topBytes)},
		{"PING, least", two(api.MuxPing, 0, 0), unhex("07 00")},
		{"PING", two(api.MuxPing, 0, 1), unhex("07 01")},
		{"PING, example 1", two(api.MuxPing, 0, top), unhex("07" + topBytes)},
		{"PONG, least", two(api.MuxPong, 0, 0), unhex("08 00")},
		{"PONG, greatest", two(api.MuxPong, 0, top), unhex("08" + topBytes)},
		{"AWAY, least", two(api.MuxAway, 0, 0), unhex("09 00 00")},
		{"AWAY", two(api.MuxAway, 0, 7), unhex("09 00 07")},
		{"AWAY, greatest", two(api.MuxAway, top, top), unhex("09" + topBytes + topBytes)},
	}
	for _, kind := range []int{api.MuxStop, api.MuxReset} {
		first := []byte{byte(kind)}
		list = append(list,
			formed{"STOP or RESET, least", two(kind, 1, 0), append(first, 1, 0)},
			formed{"STOP or RESET", two(kind, 128, 127), append(first, 0x80, 1, 0x7f)},
			formed{"STOP or RESET, greatest", two(kind, top, top), append(first, unhex(topBytes+topBytes)...)})
	}
	return list
}

// encodes holds Encode and Fit of f against an error, and nothing beside it.
func encodes(t *testing.T, what string, f api.MuxFrame, want api.Errno) {
	t.Helper()
	b, e := muxwire.Encode(f)
	if e != want || e != api.OK && b != nil {
		t.Errorf("Encode of %s (%s): %d bytes, %d, want %d", what, told(f), len(b), e, want)
	}
	if muxwire.Fit(f) != (want == api.OK) {
		t.Errorf("Fit of %s (%s): not %v", what, told(f), want == api.OK)
	}
}

// P17.1, P17.2, P17.4; example 1
func TestForms(t *testing.T) {
	seen := map[int]bool{}
	for _, x := range forms() {
		seen[x.frame.Kind] = true
		b, e := muxwire.Encode(x.frame)
		if e != api.OK || !bytes.Equal(b, x.bytes) || !muxwire.Fit(x.frame) {
			t.Errorf("%s: %x, %d", x.name, b[:min(len(b), 30)], e)
		}
		for _, behind := range [][]byte{nil, {0}, {0xff}, {1, 2, 3}, x.bytes} {
			f, n, e := muxwire.Decode(append(slices.Clone(x.bytes), behind...))
			if e != api.OK || n != len(x.bytes) || !same(f, x.frame) {
				t.Errorf("%s and %d bytes behind: %s, %d, %d", x.name, len(behind), told(f), n, e)
			}
		}
	}
	if len(seen) != api.NumMux-1 {
		t.Errorf("only %d kinds were looked at", len(seen))
	}
}

// P17.1: what is no kind, whatever else is wrong; kinds whose lowest byte is one, too
func TestNoKind(t *testing.T) {
	for _, kind := range []int{0, -1, 10, 11, 127, 128, 255, 256, 257, 265, 1 << 32, 1<<32 + 1, math.MaxInt, math.MinInt, math.MinInt + 1} {
		encodes(t, "no kind", api.MuxFrame{Kind: kind}, api.ErrMuxKind)
		encodes(t, "no kind", api.MuxFrame{Kind: kind, Stream: 1}, api.ErrMuxKind)
		encodes(t, "no kind and all else wrong", api.MuxFrame{Kind: kind, Stream: top + 1, N: top + 1, Class: 8, Share: -1, Data: fill(16385, 0)}, api.ErrMuxKind)
	}
}

// least is a frame of each kind that is fit.
func least() map[int]api.MuxFrame {
	list := map[int]api.MuxFrame{}
	for kind := api.MuxOpen; kind < api.NumMux; kind++ {
		list[kind] = api.MuxFrame{Kind: kind, Stream: 1}
	}
	list[api.MuxOpen] = api.MuxFrame{Kind: api.MuxOpen, Stream: 1, Share: 1}
	list[api.MuxBytes] = api.MuxFrame{Kind: api.MuxBytes, Stream: 1, Data: []byte{0}}
	list[api.MuxPing] = api.MuxFrame{Kind: api.MuxPing}
	list[api.MuxPong] = api.MuxFrame{Kind: api.MuxPong}
	return list
}

// ownFields is the chapter's table.
func ownFields() map[int]string {
	return map[int]string{1: "Stream Class Share", 2: "Stream Data", 3: "Stream N", 4: "Stream", 5: "Stream N", 6: "Stream N", 7: "N", 8: "N", 9: "Stream N"}
}

func owns(kind int, field string) bool {
	return slices.Contains(strings.Fields(ownFields()[kind]), field)
}

// P17.1: a number above 2^62, of any kind, its own field or not
func TestNumbersTooGreat(t *testing.T) {
	for kind, f := range least() {
		encodes(t, "least", f, api.OK)
		for _, n := range []uint64{top + 1, top + 2, 1<<63 - 1, 1 << 63, math.MaxUint64 - 1, math.MaxUint64} {
			g := f
			g.Stream = n
			encodes(t, "Stream", g, api.ErrMuxNumber)
			g.Data = fill(16385, 1)
			g.Class = 9
			encodes(t, "Stream, a long Data and a Class", g, api.ErrMuxNumber)
			g = f
			g.N = n
			encodes(t, "N", g, api.ErrMuxNumber)
			g.Stream = 0
			encodes(t, "N and no Stream", g, api.ErrMuxNumber)
		}
		for _, field := range []string{"Stream", "N"} {
			want := api.ErrMuxField
			if owns(kind, field) {
				want = api.OK
			}
			g := f
			if field == "Stream" {
				g.Stream = top
			} else {
				g.N = top
			}
			encodes(t, field+" as great as may be", g, want)
		}
	}
}

// P17.1: Data of too many bytes, of any kind
func TestTooLong(t *testing.T) {
	for kind, f := range least() {
		for _, n := range []int{16385, 16386, 1 << 17} {
			f.Data = fill(n, 1)
			encodes(t, "long", f, api.ErrMuxLong)
			g := f
			g.Class, g.Share = -1, 256
			encodes(t, "long, and other faults", g, api.ErrMuxLong)
			g.Stream = 0
			encodes(t, "long, and no Stream", g, api.ErrMuxLong)
		}
		for _, n := range []int{1, 16384} {
			want := api.ErrMuxField
			if kind == api.MuxBytes {
				want = api.OK
			}
			f.Data = fill(n, 1)
			encodes(t, "not too long", f, want)
		}
		f.Data = nil
		want := api.OK
		if kind == api.MuxBytes {
			want = api.ErrMuxField
		}
		encodes(t, "no Data", f, want)
		f.Data = make([]byte, 0, 5)
		encodes(t, "Data of nothing", f, want)
	}
}

// P17.1: bounds that a kind has of its own
func TestBounds(t *testing.T) {
	for kind, f := range least() {
		f.Stream = 0
		want := api.ErrMuxField
		if kind == api.MuxRoom || kind == api.MuxAway || kind == api.MuxPing || kind == api.MuxPong {
			want = api.OK
		}
		encodes(t, "Stream 0", f, want)
	}
	open := least()[api.MuxOpen]
	for class := -3; class < 300; class++ {
		f := open
		f.Class = class
		want := api.ErrMuxField
		if class >= 0 && class <= 7 {
			want = api.OK
		}
		encodes(t, "Class", f, want)
	}
	for share := -3; share < 600; share++ {
		f := open
		f.Share = share
		want := api.ErrMuxField
		if share >= 1 && share <= 255 {
			want = api.OK
		}
		encodes(t, "Share", f, want)
	}
	for _, x := range []int{math.MinInt, math.MinInt + 1, -256, -255, 256, 257, 1 << 32, 1<<32 + 1, math.MaxInt} {
		f := open
		f.Class = x
		encodes(t, "Class", f, api.ErrMuxField)
		f = open
		f.Share = x
		encodes(t, "Share", f, api.ErrMuxField)
	}
}

// P17.1: a field that a kind has not
func TestForeignFields(t *testing.T) {
	set := map[string][]func(*api.MuxFrame){
		"Stream": {func(f *api.MuxFrame) { f.Stream = 1 }, func(f *api.MuxFrame) { f.Stream = 1 << 32 }, func(f *api.MuxFrame) { f.Stream = top }},
		"N":      {func(f *api.MuxFrame) { f.N = 1 }, func(f *api.MuxFrame) { f.N = 1 << 32 }, func(f *api.MuxFrame) { f.N = top }},
		"Class":  {func(f *api.MuxFrame) { f.Class = 1 }, func(f *api.MuxFrame) { f.Class = 7 }, func(f *api.MuxFrame) { f.Class = -1 }},
		"Share":  {func(f *api.MuxFrame) { f.Share = 1 }, func(f *api.MuxFrame) { f.Share = 255 }, func(f *api.MuxFrame) { f.Share = -1 }},
		"Data":   {func(f *api.MuxFrame) { f.Data = []byte{0} }, func(f *api.MuxFrame) { f.Data = fill(16384, 0) }},
	}
	for kind, f := range least() {
		for field, ways := range set {
			for _, lay := range ways {
				g := f
				lay(&g)
				if !owns(kind, field) {
					encodes(t, "with "+field, g, api.ErrMuxField)
				}
			}
		}
	}
}

// decodes holds Decode of b against an error; beside it there is nothing.
func decodes(t *testing.T, what string, b []byte, want api.Errno) {
	t.Helper()
	f, n, e := muxwire.Decode(b)
	if e != want {
		t.Errorf("Decode of %s (%x): %d, want %d", what, b[:min(len(b), 30)], e, want)
	}
	if e != api.OK && (!isZero(f) || n != 0) {
		t.Errorf("Decode of %s (%x): %d, and beside it %s, %d", what, b[:min(len(b), 30)], e, told(f), n)
	}
}

// P17.2: example 2
func TestRefusedBytes(t *testing.T) {
	for _, x := range []struct {
		bytes string
		want  api.Errno
	}{
		{"02 01 02 61", api.ErrMuxShort},
		{"02 01 00", api.ErrMuxField},
		{"02 00", api.ErrMuxField},
		{"02 80 00", api.ErrMuxNumber},
		{"07 80 80 80 80 80 80 80 80 41", api.ErrMuxNumber},
		{"07 80 80 80 80 80 80 80 80 80", api.ErrMuxNumber},
		{"07 80 80 80 80 80 80 80 80", api.ErrMuxShort},
		{"00", api.ErrMuxKind},
		{"02 01 81 80 01", api.ErrMuxLong},
		{"01 01 08", api.ErrMuxField},
	} {
		decodes(t, "example 2", unhex(x.bytes), x.want)
	}
}

// P17.2: the first byte, and whatever lies behind it
func TestFirstByte(t *testing.T) {
	decodes(t, "nothing", nil, api.ErrMuxShort)
	decodes(t, "nothing", []byte{}, api.ErrMuxShort)
	for x := range 256 {
		want := api.ErrMuxKind
		if x >= 1 && x <= 9 {
			want = api.ErrMuxShort
		}
		decodes(t, "one byte", []byte{byte(x)}, want)
		if want == api.ErrMuxKind {
			for _, behind := range []string{"00", "01 00 01", "80 00", "ff ff ff ff ff ff ff ff ff ff"} {
				decodes(t, "no kind", append([]byte{byte(x)}, unhex(behind)...), want)
			}
		}
	}
}

// P17.2, P17.5: every frame's bytes, cut anywhere, are no frame
func TestCutAnywhere(t *testing.T) {
	for _, x := range forms() {
		for n := range x.bytes {
			decodes(t, x.name+" cut", x.bytes[:n], api.ErrMuxShort)
		}
	}
}

// numbers is a number of each length, the least and the greatest one, with its bytes.
func numbers() map[uint64]string {
	return map[uint64]string{
		0: "00", 1: "01", 127: "7f",
		128: "80 01", 300: "ac 02", 1<<14 - 1: "ff 7f",
		1 << 14: "80 80 01", 1<<21 - 1: "ff ff 7f",
		1 << 21: "80 80 80 01", 1<<28 - 1: "ff ff ff 7f",
		1 << 28: "80 80 80 80 01", 1<<35 - 1: "ff ff ff ff 7f",
		1 << 35: "80 80 80 80 80 01", 1<<42 - 1: "ff ff ff ff ff 7f",
		1 << 42: "80 80 80 80 80 80 01", 1<<49 - 1: "ff ff ff ff ff ff 7f",
		1 << 49: "80 80 80 80 80 80 80 01", 1<<56 - 1: "ff ff ff ff ff ff ff 7f",
		1 << 56: "80 80 80 80 80 80 80 80 01", top - 1: "ff ff ff ff ff ff ff ff 3f", top: "80 80 80 80 80 80 80 80 40",
	}
}

// P17.1, P17.2, P17.4: numbers of each length, as N and as Stream
func TestNumbers(t *testing.T) {
	for n, form := range numbers() {
		for _, x := range []formed{
			{"PING", api.MuxFrame{Kind: api.MuxPing, N: n}, unhex("07" + form)},
			{"ROOM", api.MuxFrame{Kind: api.MuxRoom, Stream: n, N: 5}, unhex("03" + form + "05")},
			{"AWAY", api.MuxFrame{Kind: api.MuxAway, Stream: n, N: n}, unhex("09" + form + form)},
		} {
			b, e := muxwire.Encode(x.frame)
			if e != api.OK || !bytes.Equal(b, x.bytes) {
				t.Errorf("%s of %d: %x, %d", x.name, n, b, e)
			}
			f, size, e := muxwire.Decode(x.bytes)
			if e != api.OK || size != len(x.bytes) || !same(f, x.frame) {
				t.Errorf("%s: %s, %d, %d", x.name, told(f), size, e)
			}
			for cut := range x.bytes {
				decodes(t, "a number cut", x.bytes[:cut], api.ErrMuxShort)
			}
		}
	}
}

// P17.2: a number with zeros behind its last byte; in each field that is a number
func TestNotTheShortest(t *testing.T) {
	ahead := map[string]string{"N of PING": "07", "N of PONG": "08", "N of ROOM": "03 00", "N of AWAY": "09 00", "N of STOP": "05 01", "N of RESET": "06 01", "length": "02 01"}
	for kind := range 9 {
		if kind+1 != api.MuxPing && kind+1 != api.MuxPong {
			ahead["Stream "+digits(int64(kind+1))] = hex.EncodeToString([]byte{byte(kind + 1)})
		}
	}
	for n, form := range numbers() {
		b := unhex(form)
		for size := len(b) + 1; size <= 9; size++ {
			long := append(slices.Clone(b), make([]byte, size-len(b))...)
			for i := len(b) - 1; i < size-1; i++ {
				long[i] |= 0x80
			}
			for what, first := range ahead {
				whole := append(unhex(first), long...)
				decodes(t, what+" of "+digits(int64(n))+" too long", whole, api.ErrMuxNumber)
				decodes(t, what+" too long, and more", append(whole, 1, 1, 1), api.ErrMuxNumber)
				decodes(t, what+" too long, one byte ahead of its end", whole[:len(whole)-1], api.ErrMuxShort)
			}
		}
	}
}

// P17.2: above 2^62 in nine bytes; and a ninth byte behind which another one would follow, whatever that one is
func TestNinthByte(t *testing.T) {
	for x := range 256 {
		for _, ahead := range []string{"80 80 80 80 80 80 80 80", "81 80 80 80 80 80 80 80", "ff ff ff ff ff ff ff ff", "80 80 80 80 80 80 80 81"} {
			want := api.OK
			if x == 0 || x > 0x40 || x == 0x40 && ahead != "80 80 80 80 80 80 80 80" {
				want = api.ErrMuxNumber
			}
			b := append(unhex("07"+ahead), byte(x))
			decodes(t, "a ninth byte", b, want)
			decodes(t, "a ninth byte, and more", append(slices.Clone(b), 0), want)
			decodes(t, "a ninth byte, and more", append(slices.Clone(b), 1), want)
			stream := append(unhex("04"+ahead), byte(x))
			decodes(t, "a ninth byte of Stream", stream, want)
			length := append(unhex("02 01"+ahead), byte(x))
			if want == api.OK {
				want = api.ErrMuxLong
			}
			decodes(t, "a ninth byte of a length", length, want)
		}
	}
}

// P17.2: fields out of their bounds, right behind them
func TestBytesOutOfBounds(t *testing.T) {
	for _, kind := range []byte{1, 2, 4, 5, 6} {
		decodes(t, "Stream 0", []byte{kind, 0}, api.ErrMuxField)
		decodes(t, "Stream 0, and more", []byte{kind, 0, 0, 0, 0}, api.ErrMuxField)
	}
	for _, kind := range []byte{3, 9} {
		decodes(t, "Stream 0", []byte{kind, 0}, api.ErrMuxShort)
		decodes(t, "Stream 0", []byte{kind, 0, 0}, api.OK)
	}
	for x := range 256 {
		want := api.ErrMuxField
		if x <= 7 {
			want = api.ErrMuxShort
		}
		decodes(t, "Class", []byte{1, 1, byte(x)}, want)
		if x <= 7 {
			want = api.OK
		}
		decodes(t, "Class", []byte{1, 1, byte(x), 1}, want)
		want = api.OK
		if x == 0 {
			want = api.ErrMuxField
		}
		decodes(t, "Share", []byte{1, 1, 0, byte(x)}, want)
		if f, _, _ := muxwire.Decode([]byte{1, 1, 3, byte(x)}); x > 0 && (f.Class != 3 || f.Share != x) {
			t.Errorf("Share %d is read as %s", x, told(f))
		}
	}
}

// P17.2: lengths of Data
func TestLengths(t *testing.T) {
	data := fill(20000, 'd')
	for _, x := range []struct {
		form string
		n    int
		want api.Errno
	}{
		{"00", 0, api.ErrMuxField},
		{"01", 1, api.OK},
		{"7f", 127, api.OK},
		{"80 01", 128, api.OK},
		{"ff 7f", 16383, api.OK},
		{"80 80 01", 16384, api.OK},
		{"81 80 01", 16385, api.ErrMuxLong},
		{"ff ff 7f", 1<<21 - 1, api.ErrMuxLong},
		{"80 80 80 80 10", 1 << 32, api.ErrMuxLong},
		{"81 80 80 80 10", 1<<32 + 1, api.ErrMuxLong},
		{"80 80 80 80 80 80 80 80 40", top, api.ErrMuxLong},
		{"81 80 80 80 80 80 80 80 40", top + 1, api.ErrMuxNumber},
		{"80 00", 0, api.ErrMuxNumber},
		{"81 80 81 00", 0, api.ErrMuxNumber},
	} {
		head := unhex("02 01" + x.form)
		decodes(t, "a length and enough bytes", append(slices.Clone(head), data...), x.want)
		if x.want != api.OK {
			decodes(t, "a length and nothing", head, x.want)
			continue
		}
		decodes(t, "a length and nothing", head, api.ErrMuxShort)
		whole := append(slices.Clone(head), data[:x.n]...)
		decodes(t, "a length and a byte less", whole[:len(whole)-1], api.ErrMuxShort)
		f, n, e := muxwire.Decode(append(whole, 1, 2, 3))
		if e != api.OK || n != len(whole) || len(f.Data) != x.n {
			t.Errorf("BYTES of %d: %s, %d, %d", x.n, told(f), n, e)
		}
	}
}

// P17.2: where several things are wrong, the first one on the way
func TestFirstFault(t *testing.T) {
	for _, x := range []struct {
		bytes string
		want  api.Errno
	}{
		{"00 80 00", api.ErrMuxKind},
		{"0a 00", api.ErrMuxKind},
		{"01 80 00 08 00", api.ErrMuxNumber},    // Stream, then Class, then Share
		{"01 00 08 00", api.ErrMuxField},        // Stream 0
		{"01 80 80", api.ErrMuxShort},           // the number may still become right
		{"01 01 08 00", api.ErrMuxField},        // Class
		{"01 01 07", api.ErrMuxShort},           // Share is not there
		{"01 01 07 00", api.ErrMuxField},        // Share
		{"02 00 81 80 01", api.ErrMuxField},     // Stream 0, ahead of the length
		{"02 00 80 00", api.ErrMuxField},        // likewise
		{"02 80 00 81 80 01", api.ErrMuxNumber}, // Stream, ahead of the length
		{"02 01 80 80 00", api.ErrMuxNumber},    // the length 0, not in its shortest form
		{"02 01 81 80 81 00", api.ErrMuxNumber}, // a great length, not in its shortest form
		{"02 01 81 80", api.ErrMuxShort},        // the length is not at its end
		{"02 01 00 81 80 01", api.ErrMuxField},  // what lies behind is not looked at
		{"03 00 80 00", api.ErrMuxNumber},       // N
		{"03 80 00 80 00", api.ErrMuxNumber},    // both
		{"05 00 80 00", api.ErrMuxField},        // Stream 0, ahead of N
		{"06 00", api.ErrMuxField},              // Stream 0, ahead of N, which is not there
		{"06 80 00", api.ErrMuxNumber},          // Stream in two bytes
		{"09 00 80 80 80 00", api.ErrMuxNumber}, // N
		{"04 01 80 00", api.OK},                 // behind the frame
		{"07 00 00", api.OK},                    // likewise
		{"03 00 00 80 00 ff", api.OK},           // likewise
		{"02 01 01 61 02 00", api.OK},           // likewise
		{"04 ff ff ff ff ff ff ff ff ff", api.ErrMuxNumber},
		{"05 ff ff ff ff ff ff ff ff 40 80 00", api.ErrMuxNumber},
	} {
		decodes(t, "several faults", unhex(x.bytes), x.want)
	}
}
