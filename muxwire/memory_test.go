package muxwire_test

import (
	"bytes"
	"slices"
	"testing"

	"braid/api"
	"braid/muxwire"
)

// spare is b with room behind it that is full of x.
func spare(b []byte, x byte) []byte {
	return append(slices.Clone(b), fill(40, x)...)[:len(b)]
}

func whole(b []byte) []byte { return b[:cap(b)] }

func overwrite(b []byte, x byte) {
	for i := range b {
		b[i] = x
	}
}

// 0.4: of Encode, taken and refused
func TestMemoryOfEncode(t *testing.T) {
	for _, x := range forms() {
		f := x.frame
		f.Data = spare(f.Data, 0xee)
		kept := slices.Clone(whole(f.Data))
		b, _ := muxwire.Encode(f)
		other, _ := muxwire.Encode(f)
		muxwire.Fit(f)
		overwrite(whole(other), 0x99)
		if !bytes.Equal(whole(f.Data), kept) {
			t.Errorf("%s: what was handed in has changed", x.name)
		}
		overwrite(whole(f.Data), 0x98)
		if !bytes.Equal(b, x.bytes) {
			t.Errorf("%s: what was handed out has changed", x.name)
		}
	}
	for _, f := range []api.MuxFrame{{Kind: 0}, {Kind: api.MuxEnd, Stream: 1}, {Kind: api.MuxBytes}, {Kind: api.MuxBytes, Stream: top + 1}} {
		f.Data = spare([]byte("data"), 0xee)
		kept := slices.Clone(whole(f.Data))
		muxwire.Encode(f)
		if !bytes.Equal(whole(f.Data), kept) {
			t.Errorf("%s: refused, and changed", told(f))
		}
	}
}

// 0.4: of Decode, taken and refused
func TestMemoryOfDecode(t *testing.T) {
	for _, x := range forms() {
		b := spare(x.bytes, 0xee)
		kept := slices.Clone(whole(b))
		f, _, _ := muxwire.Decode(b)
		other, _, _ := muxwire.Decode(b)
		overwrite(whole(other.Data), 0x97)
		if !bytes.Equal(whole(b), kept) {
			t.Errorf("%s: what was handed in has changed", x.name)
		}
		overwrite(whole(b), 0x96)
		if !same(f, x.frame) {
			t.Errorf("%s: a frame that was handed out has changed", x.name)
		}
		for n := range min(len(x.bytes), 20) {
			b := spare(x.bytes[:n], 0xee)
			kept := slices.Clone(whole(b))
			muxwire.Decode(b)
			if !bytes.Equal(whole(b), kept) {
				t.Errorf("%s: refused, and changed", x.name)
			}
		}
	}
}

// 0.4: of a Reader; what was written is not looked at again, and frames that were given stay as they are, whatever comes behind them
func TestMemoryOfReader(t *testing.T) {
	d := dice(40)
	r := muxwire.NewReader()
	var row, got []api.MuxFrame
	for range 300 {
		f := d.fit()
		row = append(row, f)
		b := spare(bytesByBook(f), 0xee)
		kept := slices.Clone(whole(b))
		cut := d.below(len(b) + 1)
		r.Write(b[:cut])
		r.Next() // it may have a frame only if all of it has come
		if cut == len(b) {
			row = row[:len(row)-1]
		}
		r.Write(b[cut:])
		if !bytes.Equal(whole(b), kept) {
			t.Fatal("what was handed in has changed")
		}
		overwrite(whole(b), 0x95)
		for f, ok, _ := r.Next(); ok; f, ok, _ = r.Next() {
			got = append(got, f)
		}
	}
	if !slices.EqualFunc(got, row, same) {
		t.Fatalf("%d frames, want %d; or others", len(got), len(row))
	}
	for i := range got {
		overwrite(whole(got[i].Data), 0x94)
		if i+1 < len(got) && !same(got[i+1], row[i+1]) {
			t.Fatalf("frame %d shares memory with the one ahead of it", i+1)
		}
	}
}

// 0.4: a frame that was given can be written over while others lie in the Reader
func TestGivenFrameWrittenOver(t *testing.T) {
	r := muxwire.NewReader()
	r.Write(unhex("02 01 03 61 62 63 02 02 02 64 65 04 07 02 03 01 66"))
	for _, want := range []api.MuxFrame{
		{Kind: api.MuxBytes, Stream: 1, Data: []byte("abc")},
		{Kind: api.MuxBytes, Stream: 2, Data: []byte("de")},
		end(7),
		{Kind: api.MuxBytes, Stream: 3, Data: []byte("f")},
	} {
		f, ok, e := r.Next()
		if !ok || e != api.OK || !same(f, want) {
			t.Errorf("%s, %v, %d; want %s", told(f), ok, e, told(want))
		}
		overwrite(whole(f.Data), 0xff)
	}
}
