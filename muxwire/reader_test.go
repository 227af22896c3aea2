package muxwire_test

import (
	"slices"
	"testing"

	"braid/api"
	"braid/muxwire"
)

// next holds Next, and At and Left behind it, against what is wanted. Nothing comes beside a false.
func next(t *testing.T, r *muxwire.Reader, want api.MuxFrame, ok bool, e api.Errno, at uint64, left int) {
	t.Helper()
	f, is, err := r.Next()
	if !same(f, want) || is != ok || err != e || !is && !isZero(f) {
		t.Errorf("Next: %s, %v, %d; want %s, %v, %d", told(f), is, err, told(want), ok, e)
	}
	stands(t, r, at, left)
}

func stands(t *testing.T, r *muxwire.Reader, at uint64, left int) {
	t.Helper()
	if r.At() != at || r.Left() != left {
		t.Errorf("At %d, Left %d; want %d, %d", r.At(), r.Left(), at, left)
	}
}

func end(stream uint64) api.MuxFrame { return api.MuxFrame{Kind: api.MuxEnd, Stream: stream} }

// P17.3: example 3
func TestReader(t *testing.T) {
	nothing := api.MuxFrame{}
	r := muxwire.NewReader()
	stands(t, r, 0, 0)
	next(t, r, nothing, false, api.OK, 0, 0)
	r.Write(unhex("02 01 02 61"))
	next(t, r, nothing, false, api.OK, 0, 4)
	r.Write(unhex("62 04"))
	stands(t, r, 0, 6)
	next(t, r, api.MuxFrame{Kind: api.MuxBytes, Stream: 1, Data: []byte("ab")}, true, api.OK, 5, 1)
	next(t, r, nothing, false, api.OK, 5, 1)
	r.Write([]byte{7})
	next(t, r, end(7), true, api.OK, 7, 0)
	r.Write([]byte{0})
	next(t, r, nothing, false, api.ErrMuxKind, 7, 1)
	r.Write([]byte{4, 1})
	next(t, r, nothing, false, api.ErrMuxKind, 7, 1)
}

// P17.3: once Next has answered an error, nothing changes any more
func TestReaderInError(t *testing.T) {
	for bytes, want := range map[string]api.Errno{
		"00":                            api.ErrMuxKind,
		"0a 04 01":                      api.ErrMuxKind,
		"04 80 00":                      api.ErrMuxNumber,
		"07 80 80 80 80 80 80 80 80 80": api.ErrMuxNumber,
		"04 00":                         api.ErrMuxField,
		"01 01 08 01 04 01":             api.ErrMuxField,
		"02 01 00":                      api.ErrMuxField,
		"02 01 81 80 01":                api.ErrMuxLong,
	} {
		b := unhex(bytes)
		r := muxwire.NewReader()
		r.Write(append([]byte{4, 9, 7, 0}, b...))
		next(t, r, end(9), true, api.OK, 2, 2+len(b))
		next(t, r, api.MuxFrame{Kind: api.MuxPing}, true, api.OK, 4, len(b))
		for range 3 {
			next(t, r, api.MuxFrame{}, false, want, 4, len(b))
			r.Write([]byte{4, 1})
			r.Write(nil)
			r.Write(fill(5000, 4))
			stands(t, r, 4, len(b))
		}
	}
}

// P17.3: an error that nobody has asked for yet bars no Write; one that could still become right is none
func TestReaderAheadOfItsError(t *testing.T) {
	r := muxwire.NewReader()
	r.Write([]byte{0})
	r.Write([]byte{4, 1})
	stands(t, r, 0, 3)
	next(t, r, api.MuxFrame{}, false, api.ErrMuxKind, 0, 3)
	r.Write([]byte{4, 1})
	stands(t, r, 0, 3)

	r = muxwire.NewReader()
	r.Write([]byte{4, 0x80})
	next(t, r, api.MuxFrame{}, false, api.OK, 0, 2)
	r.Write([]byte{0x80})
	next(t, r, api.MuxFrame{}, false, api.OK, 0, 3)
	r.Write([]byte{0})
	next(t, r, api.MuxFrame{}, false, api.ErrMuxNumber, 0, 4)
}

// P17.2, P17.3: the error is told as soon as the byte has come that is wrong
func TestReaderTellsAtOnce(t *testing.T) {
	for bytes, want := range map[string]api.Errno{
		"00":                            api.ErrMuxKind,
		"01 00":                         api.ErrMuxField,
		"01 01 08":                      api.ErrMuxField,
		"01 01 07 00":                   api.ErrMuxField,
		"02 05 00":                      api.ErrMuxField,
		"02 05 81 80 01":                api.ErrMuxLong,
		"06 ac 00":                      api.ErrMuxNumber,
		"06 01 80 00":                   api.ErrMuxNumber,
		"08 ff ff ff ff ff ff ff ff 40": api.ErrMuxNumber,
		"08 ff ff ff ff ff ff ff ff ff": api.ErrMuxNumber,
	} {
		r := muxwire.NewReader()
		b := unhex(bytes)
		for i, x := range b {
			next(t, r, api.MuxFrame{}, false, api.OK, 0, i)
			r.Write([]byte{x})
		}
		next(t, r, api.MuxFrame{}, false, want, 0, len(b))
	}
}

// given is what a Reader gives of bytes, cut at these places, asked behind each piece or only at the end.
func given(t *testing.T, b []byte, cuts []int, between bool) ([]api.MuxFrame, api.Errno, uint64) {
	t.Helper()
	r := muxwire.NewReader()
	var list []api.MuxFrame
	var fault api.Errno
	ask := func() {
		for {
			f, ok, e := r.Next()
			if !ok {
				fault = e
				return
			}
			list = append(list, f)
		}
	}
	from := 0
	for _, cut := range append(slices.Clone(cuts), len(b)) {
		r.Write(b[from:cut])
		from = cut
		if between {
			ask()
		}
		if fault == api.OK && r.At()+uint64(r.Left()) != uint64(cut) {
			t.Fatalf("behind %d bytes: At %d, Left %d", cut, r.At(), r.Left())
		}
	}
	ask()
	return list, fault, r.At()
}

// inAnyCut holds what a Reader gives of bytes in these cuts against the book.
func inAnyCut(t *testing.T, b []byte, cuts []int) {
	t.Helper()
	var want []api.MuxFrame
	at := 0
	f, n, e := decodeByBook(b)
	for ; e == api.OK; f, n, e = decodeByBook(b[at:]) {
		want = append(want, f)
		at += n
	}
	if e == api.ErrMuxShort {
		e = api.OK
	}
	for _, between := range []bool{false, true} {
		got, fault, size := given(t, b, cuts, between)
		if fault != e || size != uint64(at) || !slices.EqualFunc(got, want, same) {
			t.Fatalf("%d bytes in %d pieces, asked between: %v: %d frames, %d, %d bytes; want %d, %d, %d", len(b), len(cuts)+1, between, len(got), fault, size, len(want), e, at)
		}
	}
}

// every is all places within b.
func every(b []byte) []int {
	var cuts []int
	for i := range b {
		cuts = append(cuts, i)
	}
	return cuts
}

// P17.6: one byte at a time, all at once, one cut anywhere, the same cut three times (so that nothing is written, too)
func TestAnyCut(t *testing.T) {
	var all []byte
	for _, x := range forms() {
		if len(x.bytes) < 300 {
			all = append(all, x.bytes...)
		}
	}
	for _, behind := range []string{"", "00", "04", "04 00 04 01", "02 01 05 61 62", "07 80 00 07 01"} {
		b := append(slices.Clone(all), unhex(behind)...)
		inAnyCut(t, b, nil)
		inAnyCut(t, b, every(b))
		for i := range b {
			inAnyCut(t, b, []int{i, i, i})
		}
	}
}

// P17.6, P17.7: rows of frames, cut anyhow
func TestRowsOfFrames(t *testing.T) {
	d := dice(177)
	for range 300 {
		var b []byte
		var ends []int
		var row []api.MuxFrame
		for range 1 + d.below(12) {
			f := d.fit()
			row = append(row, f)
			b = append(b, bytesByBook(f)...)
			ends = append(ends, len(b))
		}
		for _, cuts := range [][]int{nil, ends, d.cuts(b), d.cuts(b)} {
			got, e, at := given(t, b, cuts, d.below(2) == 0)
			if e != api.OK || at != uint64(len(b)) || !slices.EqualFunc(got, row, same) {
				t.Fatalf("a row of %d frames in %d pieces: %d frames, %d", len(row), len(cuts)+1, len(got), e)
			}
			inAnyCut(t, b, cuts)
		}
		spoilt := d.nearly()
		inAnyCut(t, spoilt, d.cuts(spoilt))
	}
}

// cuts is some places within b, rising.
func (d *dice) cuts(b []byte) []int {
	var list []int
	for range d.below(20) {
		list = append(list, d.below(len(b)+1))
	}
	slices.Sort(list)
	return list
}

// readerByBook is P17.3, word by word: all that came, and how far it was given.
type readerByBook struct {
	came []byte
	at   int
	e    api.Errno
}

func (r *readerByBook) write(b []byte) {
	if r.e == api.OK {
		r.came = append(r.came, b...)
	}
}

func (r *readerByBook) next() (api.MuxFrame, bool, api.Errno) {
	if r.e != api.OK {
		return api.MuxFrame{}, false, r.e
	}
	f, n, e := decodeByBook(r.came[r.at:])
	if e == api.ErrMuxShort {
		return api.MuxFrame{}, false, api.OK
	}
	r.at += n
	r.e = e
	return f, e == api.OK, e
}

// P17.3: any calls in any order, with At and Left behind each
func TestReaderAgainstTheBook(t *testing.T) {
	d := dice(173)
	faults := 0
	for range 400 {
		r, book := muxwire.NewReader(), &readerByBook{}
		var b []byte
		for range 60 {
			if len(b) == 0 {
				b = bytesByBook(d.fit())
				if d.below(40) == 0 {
					b = d.nearly()
				}
			}
			if d.below(2) == 0 {
				n := d.below(min(len(b), 40) + 1)
				if d.below(4) == 0 {
					n = len(b)
				}
				r.Write(b[:n])
				book.write(b[:n])
				b = b[n:]
				stands(t, r, uint64(book.at), len(book.came)-book.at)
				continue
			}
			want, ok, e := book.next()
			next(t, r, want, ok, e, uint64(book.at), len(book.came)-book.at)
		}
		if book.e != api.OK {
			faults++
		}
	}
	if faults < 50 {
		t.Errorf("only %d Readers came to an error", faults)
	}
}

// P17.3, P17.7: a Reader with much in it, given in small frames: what is left is moved many times
func TestManySmallFrames(t *testing.T) {
	const count = 1 << 19
	b := make([]byte, 0, 2*count)
	for i := range count {
		b = append(b, api.MuxEnd, byte(1+i%127))
	}
	r := muxwire.NewReader()
	r.Write(b)
	for i := range count {
		if f, ok, e := r.Next(); !ok || e != api.OK || !same(f, end(uint64(1+i%127))) {
			t.Fatalf("frame %d: %s, %v, %d", i, told(f), ok, e)
		}
		if r.At() != uint64(2*i+2) || r.Left() != 2*(count-i-1) {
			t.Fatalf("behind frame %d: At %d, Left %d", i, r.At(), r.Left())
		}
	}
	next(t, r, api.MuxFrame{}, false, api.OK, 2*count, 0)
}

// 0.3: two Readers know nothing of one another
func TestReadersApart(t *testing.T) {
	a, b := muxwire.NewReader(), muxwire.NewReader()
	a.Write([]byte{4})
	b.Write([]byte{0})
	next(t, b, api.MuxFrame{}, false, api.ErrMuxKind, 0, 1)
	next(t, a, api.MuxFrame{}, false, api.OK, 0, 1)
	a.Write([]byte{5})
	next(t, a, end(5), true, api.OK, 2, 0)
	stands(t, b, 0, 1)
}
