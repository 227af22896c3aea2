package reasm_test

import (
	"bytes"
	"math"
	"slices"
	"strings"
	"testing"

	"braid/api"
	"braid/reasm"
)

const last = math.MaxUint64

// spans takes the bounds of ranges two by two.
func spans(bounds ...uint64) []api.Range {
	var l []api.Range
	for i := 0; i+1 < len(bounds); i += 2 {
		l = append(l, api.Range{Lo: bounds[i], Hi: bounds[i+1]})
	}
	return l
}

func fresh(t *testing.T, base uint64, size, gaps int) *reasm.Buffer {
	t.Helper()
	b, e := reasm.New(base, size, gaps)
	if b == nil || e != api.OK {
		t.Fatalf("New(%d, %d, %d): %v %d", base, size, gaps, b, e)
	}
	return b
}

func wantTake(t *testing.T, b *reasm.Buffer, off uint64, s string, n int) {
	t.Helper()
	if k, e := b.Take(off, []byte(s)); k != n || e != api.OK {
		t.Errorf("Take(%d, %.20q): %d %d, want %d", off, s, k, e, n)
	}
}

func wantRead(t *testing.T, b *reasm.Buffer, n int, s string, end bool) {
	t.Helper()
	if x, told, e := b.Read(n); string(x) != s || told != end || e != api.OK {
		t.Errorf("Read(%d): %.20q %v %d, want %.20q %v", n, x, told, e, s, end)
	}
}

func wantFin(t *testing.T, b *reasm.Buffer, off uint64, want api.Errno) {
	t.Helper()
	before := b.State()
	if e := b.Fin(off); e != want {
		t.Errorf("Fin(%d): %d, want %d", off, e, want)
	}
	if want != api.OK {
		wantState(t, "behind an end that is refused", b, before)
	}
}

// refuses asks that a chunk is answered by an error, and that nothing changes.
func refuses(t *testing.T, b *reasm.Buffer, off uint64, s string, want api.Errno) {
	t.Helper()
	before := b.State()
	if k, e := b.Take(off, []byte(s)); k != 0 || e != want {
		t.Errorf("Take(%d, %.20q): %d %d, want 0 %d", off, s, k, e, want)
	}
	wantState(t, "behind a chunk that is refused", b, before)
}

func wantState(t *testing.T, what string, b *reasm.Buffer, want api.ReasmState) {
	t.Helper()
	if got := b.State(); !sameState(got, want) {
		t.Errorf("%s: %+v, want %+v", what, got, want)
	}
}

// wantAt asks for what is told of places.
func wantAt(t *testing.T, what string, b *reasm.Buffer, read, gap, next, edge uint64) {
	t.Helper()
	if s := b.State(); s.Read != read || s.Gap != gap || b.Next() != next || b.Edge() != edge {
		t.Errorf("%s: Read %d Gap %d Next %d Edge %d, want %d %d %d %d", what, s.Read, s.Gap, b.Next(), b.Edge(), read, gap, next, edge)
	}
}

func wantRanges(t *testing.T, what string, b *reasm.Buffer, bounds ...uint64) {
	t.Helper()
	if got := b.State().Ranges; !slices.Equal(got, spans(bounds...)) {
		t.Errorf("%s: Ranges %v, want %v", what, got, spans(bounds...))
	}
}

// P8.1
func TestNew(t *testing.T) {
	for _, c := range []struct {
		base       uint64
		size, gaps int
	}{
		{0, 1, 1}, {0, api.MaxBuffer, 64}, {7, api.MaxBuffer - 1, 63}, {api.MaxOff - 1, 2, 2}, {api.MaxOff, api.MaxBuffer, 64}, {api.MaxOff, 1, 1},
	} {
		b := fresh(t, c.base, c.size, c.gaps)
		wantState(t, "New", b, api.ReasmState{Base: c.base, Cap: c.size, Gaps: c.gaps, Read: c.base, Gap: c.base})
		wantAt(t, "New", b, c.base, c.base, c.base, c.base+uint64(c.size))
		wantRead(t, b, 5, "", false)
		wantRead(t, b, 0, "", false)
	}
}

// P8.1: Cap is asked ahead of Base, Base ahead of Gaps; a Buffer that is refused is nil.
func TestNewRefuses(t *testing.T) {
	for _, c := range []struct {
		base       uint64
		size, gaps int
		want       api.Errno
	}{
		{0, 0, 1, api.ErrReasmCap}, {0, -1, 1, api.ErrReasmCap}, {0, math.MinInt, 1, api.ErrReasmCap},
		{0, api.MaxBuffer + 1, 1, api.ErrReasmCap}, {0, math.MaxInt, 1, api.ErrReasmCap},
		{last, 0, 1, api.ErrReasmCap}, {0, 0, 0, api.ErrReasmCap}, {last, api.MaxBuffer + 1, 65, api.ErrReasmCap},
		{api.MaxOff + 1, 1, 1, api.ErrReasmBase}, {1 << 63, 1, 1, api.ErrReasmBase}, {last, api.MaxBuffer, 64, api.ErrReasmBase},
		{api.MaxOff + 1, 1, 0, api.ErrReasmBase}, {last, 1, 65, api.ErrReasmBase},
		{0, 1, 0, api.ErrReasmGaps}, {0, 1, -1, api.ErrReasmGaps}, {0, 1, math.MinInt, api.ErrReasmGaps},
		{0, 1, 65, api.ErrReasmGaps}, {api.MaxOff, api.MaxBuffer, math.MaxInt, api.ErrReasmGaps},
	} {
		if b, e := reasm.New(c.base, c.size, c.gaps); b != nil || e != c.want {
			t.Errorf("New(%d, %d, %d): %v %d, want %d", c.base, c.size, c.gaps, b, e, c.want)
		}
	}
}

// P8.2: a chunk without bytes, wherever it stands.
func TestTakeEmpty(t *testing.T) {
	b := fresh(t, 10, 8, 1)
	wantTake(t, b, 12, "c", 1)
	for _, off := range []uint64{0, 9, 10, 12, 14, 18, 19, last} {
		refuses(t, b, off, "", api.ErrReasmEmpty)
	}
	wantFin(t, b, 13, api.OK)
	refuses(t, b, 14, "", api.ErrReasmEmpty)
	if k, e := b.Take(10, nil); k != 0 || e != api.ErrReasmEmpty {
		t.Errorf("Take(10, nil): %d %d", k, e)
	}
}

// P8.2: a chunk may end at the edge, not beyond it, also where the sum is no uint64; the edge moves with Read alone.
func TestTakeEdge(t *testing.T) {
	b := fresh(t, 10, 4, 1)
	refuses(t, b, 14, "e", api.ErrReasmEdge)
	refuses(t, b, 13, "de", api.ErrReasmEdge)
	refuses(t, b, 10, "abcde", api.ErrReasmEdge)
	refuses(t, b, 5, "0123456789", api.ErrReasmEdge)
	refuses(t, b, 15, "f", api.ErrReasmEdge)
	for _, off := range []uint64{1 << 62, 1 << 63, last - 4, last - 3, last - 2, last - 1, last} {
		refuses(t, b, off, "wxyz", api.ErrReasmEdge)
	}
	refuses(t, b, last, "v0123456789abcd", api.ErrReasmEdge) // wrapped round it would end at the edge
	wantTake(t, b, 13, "d", 1)
	wantTake(t, b, 10, "abcd", 3)
	refuses(t, b, 14, "e", api.ErrReasmEdge)
	wantRead(t, b, 1, "a", false)
	refuses(t, b, 14, "ef", api.ErrReasmEdge)
	wantTake(t, b, 14, "e", 1)
	wantRead(t, b, 9, "bcde", false)
	wantTake(t, b, 15, "fghi", 4)
	wantAt(t, "full again", b, 15, 19, 19, 19)
}

// P8.2: a chunk may end at Fin, not beyond it.
func TestTakeFin(t *testing.T) {
	b := fresh(t, 0, 8, 2)
	wantFin(t, b, 5, api.OK)
	refuses(t, b, 5, "f", api.ErrReasmFin)
	refuses(t, b, 6, "g", api.ErrReasmFin)
	refuses(t, b, 4, "ef", api.ErrReasmFin)
	refuses(t, b, 0, "abcdef", api.ErrReasmFin)
	wantTake(t, b, 4, "e", 1)
	wantTake(t, b, 0, "abcde", 4)
	wantRead(t, b, 9, "abcde", false)
	refuses(t, b, 5, "f", api.ErrReasmFin)
	refuses(t, b, 4, "ef", api.ErrReasmFin)
	wantTake(t, b, 0, "zzzzz", 0)
	wantRead(t, b, 9, "", true)
}

// P8.2: below Read, across Read, and over bytes that have come: these stay as they were.
func TestTakeOverWhatHasCome(t *testing.T) {
	b := fresh(t, 100, 20, 4)
	wantTake(t, b, 90, "0123456789", 0) // ahead of Base
	wantRanges(t, "ahead of Base", b)
	wantTake(t, b, 98, "XXab", 2)
	wantRead(t, b, 1, "a", false)
	wantTake(t, b, 100, "Z", 0)
	wantTake(t, b, 0, "Z", 0)
	wantTake(t, b, 100, "ZZ", 0)
	wantTake(t, b, 100, "ZZc", 1)
	wantTake(t, b, 104, "e", 1)
	wantTake(t, b, 106, "gh", 2)
	wantRanges(t, "apart", b, 101, 103, 104, 105, 106, 108)
	wantTake(t, b, 104, "Z", 0)
	wantTake(t, b, 106, "Z", 0)
	wantTake(t, b, 107, "Zi", 1)
	wantTake(t, b, 105, "fZ", 1)
	wantRanges(t, "laid together", b, 101, 103, 104, 109)
	wantTake(t, b, 99, "ZZZZdZZZZZjk", 3)
	wantRanges(t, "over all", b, 101, 111)
	wantTake(t, b, 101, "ZZZZZZZZZZ", 0)
	wantRead(t, b, 99, "bcdefghijk", false)
	wantTake(t, b, 100, "ZZZZZZZZZZZ", 0)
	wantRead(t, b, 99, "", false)
}

// P8.2: as many as Gaps may lie apart, and not one more; a chunk at Gap or below it is never one too many.
func TestTakeGaps(t *testing.T) {
	for _, gaps := range []int{1, 2, 63, 64} {
		b := fresh(t, 10, 400, gaps)
		for i := range gaps {
			wantTake(t, b, 12+3*uint64(i), "x", 1)
		}
		next := 12 + 3*uint64(gaps)
		refuses(t, b, next, "x", api.ErrReasmGaps)
		refuses(t, b, 409, "x", api.ErrReasmGaps)
		wantTake(t, b, next-3, "x", 0)
		wantTake(t, b, next-3, "xx", 1) // it touches one: no more lie apart
		wantTake(t, b, 10, "a", 1)      // at Gap: it does not lie apart
		refuses(t, b, next, "x", api.ErrReasmGaps)
		wantTake(t, b, 10, "aa", 1) // the first that lay apart does so no more
		wantTake(t, b, next, "x", 1)
		refuses(t, b, next+3, "x", api.ErrReasmGaps)
		wantTake(t, b, 0, "0123456789", 0)
		bounded(t, b)
	}
}

// P8.2: a chunk that lies between ranges, touches one, two, or none of them.
func TestTakeBetweenRanges(t *testing.T) {
	for _, c := range []struct {
		off   uint64
		chunk string
		want  api.Errno
	}{
		{4, "x", api.OK}, {4, "xxx", api.OK}, {6, "xx", api.OK}, {4, "xxxx", api.OK}, {2, "xxxxxxxxx", api.OK}, {1, "xx", api.OK},
		{6, "x", api.ErrReasmGaps}, {5, "xx", api.ErrReasmGaps}, {10, "x", api.ErrReasmGaps}, {1, "x", api.ErrReasmGaps},
		{0, "x", api.OK}, {0, "xxx", api.OK}, {0, "xxxxxxxxxxxx", api.OK},
	} {
		b := fresh(t, 0, 20, 2)
		wantTake(t, b, 3, "x", 1)
		wantTake(t, b, 8, "x", 1)
		if c.want != api.OK {
			refuses(t, b, c.off, c.chunk, c.want)
			continue
		}
		if _, e := b.Take(c.off, []byte(c.chunk)); e != api.OK {
			t.Errorf("Take(%d, %q): %d", c.off, c.chunk, e)
		}
	}
}

// P8.2: what begins at Read does not lie apart, and what lay apart begins at Read when all ahead of it has come.
func TestApartBehindRead(t *testing.T) {
	b := fresh(t, 0, 20, 1)
	wantTake(t, b, 0, "ab", 2)
	wantTake(t, b, 4, "e", 1)
	wantRead(t, b, 1, "a", false)
	refuses(t, b, 8, "i", api.ErrReasmGaps)
	wantRead(t, b, 1, "b", false) // now nothing begins at Read
	refuses(t, b, 8, "i", api.ErrReasmGaps)
	refuses(t, b, 3, "", api.ErrReasmEmpty)
	wantTake(t, b, 2, "c", 1)
	refuses(t, b, 8, "i", api.ErrReasmGaps)
	wantTake(t, b, 3, "d", 1)
	wantTake(t, b, 8, "i", 1)
	wantRead(t, b, 2, "cd", false) // the range is cut at Read
	wantRanges(t, "cut", b, 4, 5, 8, 9)
	refuses(t, b, 10, "k", api.ErrReasmGaps)
}

// Where several errors apply, the first of the table is answered.
func TestErrorsInTheirOrder(t *testing.T) {
	b := fresh(t, 0, 10, 1)
	wantTake(t, b, 2, "c", 1)
	wantFin(t, b, 6, api.OK)
	refuses(t, b, 11, "", api.ErrReasmEmpty)
	refuses(t, b, 10, "k", api.ErrReasmEdge) // Edge, Fin and Gaps
	refuses(t, b, 6, "g", api.ErrReasmFin)   // Fin and Gaps
	refuses(t, b, 4, "e", api.ErrReasmGaps)
	wantFin(t, b, 11, api.ErrReasmEdge) // Edge and Fin
	wantFin(t, b, last, api.ErrReasmEdge)
}

// P8.3: an end below Read, at a byte that has come, ahead of one, at the edge and beyond it.
func TestFin(t *testing.T) {
	at := func() *reasm.Buffer {
		b := fresh(t, 10, 8, 2)
		wantTake(t, b, 10, "abc", 3)
		wantRead(t, b, 2, "ab", false)
		wantTake(t, b, 15, "f", 1)
		return b
	}
	for _, c := range []struct {
		off  uint64
		want api.Errno
	}{
		{0, api.ErrReasmFin}, {9, api.ErrReasmFin}, {10, api.ErrReasmFin}, {11, api.ErrReasmFin}, {12, api.ErrReasmFin}, {13, api.ErrReasmFin},
		{14, api.ErrReasmFin}, {15, api.ErrReasmFin}, {16, api.OK}, {17, api.OK}, {19, api.OK}, {20, api.OK},
		{21, api.ErrReasmEdge}, {1 << 63, api.ErrReasmEdge}, {last, api.ErrReasmEdge},
	} {
		b := at()
		wantFin(t, b, c.off, c.want)
		if c.want == api.OK {
			wantState(t, "behind Fin", b, api.ReasmState{
				Base: 10, Cap: 8, Gaps: 2, Read: 12, Gap: 13, Ranges: spans(12, 13, 15, 16), Fin: c.off, Ends: true,
			})
			wantAt(t, "behind Fin", b, 12, 13, 13, 20)
		}
	}
}

// P8.3: the same end again is fine at any time, another one never.
func TestFinAgain(t *testing.T) {
	b := fresh(t, 0, 4, 1)
	wantFin(t, b, 3, api.OK)
	for range 2 {
		wantFin(t, b, 3, api.OK)
		wantFin(t, b, 2, api.ErrReasmFin)
		wantFin(t, b, 0, api.ErrReasmFin)
		wantFin(t, b, 4, api.ErrReasmFin)
		wantFin(t, b, 8, api.ErrReasmEdge)
		b.Take(0, []byte("abc"))
	}
	wantRead(t, b, 9, "abc", false)
	wantFin(t, b, 3, api.OK)
	wantFin(t, b, 2, api.ErrReasmFin)
	wantFin(t, b, 4, api.ErrReasmFin)
	wantFin(t, b, 7, api.ErrReasmFin)
	wantFin(t, b, 8, api.ErrReasmEdge)
	wantRead(t, b, 9, "", true)
}

// P8.3: an end right behind what was read, and one right at Base; a refused end is not known.
func TestFinAtRead(t *testing.T) {
	b := fresh(t, 5, 4, 1)
	wantTake(t, b, 5, "ab", 2)
	wantFin(t, b, 6, api.ErrReasmFin)
	wantFin(t, b, 5, api.ErrReasmFin)
	wantRead(t, b, 9, "ab", false)
	wantFin(t, b, 6, api.ErrReasmFin)
	wantRead(t, b, 9, "", false)
	wantFin(t, b, 7, api.OK)
	wantAt(t, "the end", b, 7, 7, 8, 11)
	wantRead(t, b, 9, "", true)

	b = fresh(t, 5, 4, 1)
	wantFin(t, b, 4, api.ErrReasmFin)
	wantFin(t, b, 5, api.OK)
	wantAt(t, "an empty stream", b, 5, 5, 6, 9)
	wantRead(t, b, 0, "", true)
	refuses(t, b, 5, "a", api.ErrReasmFin)
	wantTake(t, b, 4, "Z", 0)
}

// P8.3: an end at 0 is one that is known.
func TestFinAtZero(t *testing.T) {
	b := fresh(t, 0, 4, 1)
	wantState(t, "no end", b, api.ReasmState{Cap: 4, Gaps: 1})
	wantAt(t, "no end", b, 0, 0, 0, 4)
	wantFin(t, b, 0, api.OK)
	wantState(t, "the end", b, api.ReasmState{Cap: 4, Gaps: 1, Ends: true})
	wantFin(t, b, 1, api.ErrReasmFin)
}

// P8.4: of no bytes, of fewer and of more than there are; a number below 0.
func TestRead(t *testing.T) {
	b := fresh(t, 0, 10, 2)
	wantRead(t, b, 3, "", false)
	wantTake(t, b, 0, "abcdef", 6)
	wantTake(t, b, 8, "ij", 2)
	for _, n := range []int{-1, -7, math.MinInt} {
		before := b.State()
		if x, told, e := b.Read(n); len(x) != 0 || told || e != api.ErrReasmCount {
			t.Errorf("Read(%d): %q %v %d", n, x, told, e)
		}
		wantState(t, "behind it", b, before)
	}
	wantRead(t, b, 0, "", false)
	wantAt(t, "behind nothing", b, 0, 6, 6, 10)
	wantRead(t, b, 2, "ab", false)
	wantAt(t, "behind two", b, 2, 6, 6, 12)
	wantRanges(t, "behind two", b, 2, 6, 8, 10)
	wantRead(t, b, 4, "cdef", false)
	wantRead(t, b, 4, "", false)
	wantAt(t, "behind six", b, 6, 6, 6, 16)
	wantRanges(t, "behind six", b, 8, 10)
	wantTake(t, b, 6, "gh", 2)
	wantRead(t, b, math.MaxInt, "ghij", false)
	wantRead(t, b, math.MaxInt, "", false)
}

// P8.4: with bytes the end is not told; behind them it is, for any number that is not below 0, again and again.
func TestReadEnd(t *testing.T) {
	b := fresh(t, 0, 10, 2)
	wantFin(t, b, 3, api.OK)
	wantRead(t, b, 9, "", false)
	wantTake(t, b, 0, "a", 1)
	wantTake(t, b, 2, "c", 1)
	wantRead(t, b, 9, "a", false)
	wantRead(t, b, 9, "", false)
	wantTake(t, b, 1, "b", 1)
	wantAt(t, "the end is taken", b, 1, 3, 4, 11)
	wantRead(t, b, 0, "", false) // two bytes are left
	wantRead(t, b, 1, "b", false)
	wantRead(t, b, 0, "", false)
	wantRead(t, b, 1, "c", false)
	for _, n := range []int{0, 1, 100, math.MaxInt, 0} {
		wantRead(t, b, n, "", true)
	}
	if x, told, e := b.Read(-1); len(x) != 0 || told || e != api.ErrReasmCount {
		t.Errorf("Read(-1) at the end: %q %v %d", x, told, e)
	}
	wantAt(t, "at the end", b, 3, 3, 4, 13)
}

// P8.4: an end that becomes known when all was read already.
func TestReadEndThatComesLate(t *testing.T) {
	b := fresh(t, 0, 10, 2)
	wantTake(t, b, 0, "abc", 3)
	wantRead(t, b, 3, "abc", false)
	wantRead(t, b, 3, "", false)
	wantFin(t, b, 3, api.OK)
	wantRead(t, b, 3, "", true)
}

// P8.5: Next counts the end only where all ahead of it has come.
func TestNextAndEdge(t *testing.T) {
	b := fresh(t, 7, 5, 2)
	wantAt(t, "at first", b, 7, 7, 7, 12)
	wantTake(t, b, 8, "b", 1)
	wantAt(t, "a gap", b, 7, 7, 7, 12)
	wantFin(t, b, 9, api.OK)
	wantAt(t, "a gap and an end", b, 7, 7, 7, 12)
	wantTake(t, b, 7, "a", 1)
	wantAt(t, "all", b, 7, 9, 10, 12)
	wantRead(t, b, 1, "a", false)
	wantAt(t, "one is read", b, 8, 9, 10, 13)
	wantRead(t, b, 1, "b", false)
	wantAt(t, "all are read", b, 9, 9, 10, 14)
}

// P8.6: of every second place as many ranges as Cap / 2, rounded up; all of Cap full.
func TestFullestBuffer(t *testing.T) {
	for _, size := range []int{1, 2, 3, 8, 9, 128, 129} {
		b := fresh(t, 50, size, 64)
		n := 0
		for at := 0; at < size; at += 2 {
			wantTake(t, b, 50+uint64(at), "x", 1)
			n++
			bounded(t, b)
		}
		if got := len(b.State().Ranges); got != n || got != (size+1)/2 {
			t.Errorf("Cap %d: %d ranges, want %d", size, got, n)
		}
		wantTake(t, b, 50, strings.Repeat("y", size), size/2)
		bounded(t, b)
		wantRanges(t, "full", b, 50, 50+uint64(size))
		refuses(t, b, 50, strings.Repeat("y", size+1), api.ErrReasmEdge)
		x, _, _ := b.Read(size)
		if want := strings.Repeat("xy", size)[:size]; string(x) != want {
			t.Errorf("Cap %d: %q, want %q", size, x, want)
		}
	}
}

// P8.7: a long stream through a small buffer, chunks of it out of turn and twice, over and over the places of its bytes.
func TestLongStream(t *testing.T) {
	d := dice(5)
	stream := d.bytes(300000)
	b := fresh(t, 1<<62, 5000, 8)
	base := uint64(1 << 62)
	var got []byte
	for i := 0; len(got) < len(stream); i++ {
		if i > 10000 {
			t.Fatalf("it does not go on: %+v", b.State())
		}
		for _, ahead := range []int{2100, 900, 0, 2100, 1700, 1200, 0} {
			from := min(len(got)+ahead, len(stream))
			to := min(from+1000, len(stream))
			b.Take(base+uint64(from), stream[from:to])
		}
		x, told, e := b.Read(int(d.below(4000)))
		if told || e != api.OK {
			t.Fatalf("Read: %v %d", told, e)
		}
		got = append(got, x...)
	}
	if !bytes.Equal(got, stream) {
		t.Error("not what was sent")
	}
	wantFin(t, b, base+uint64(len(stream)), api.OK)
	wantRead(t, b, 1, "", true)
}

// P8.2: one chunk of very many bytes, and one at the last place of the greatest buffer.
func TestGreatest(t *testing.T) {
	d := dice(6)
	stream := d.bytes(1 << 21)
	b := fresh(t, api.MaxOff, api.MaxBuffer, 1)
	edge := uint64(api.MaxOff + api.MaxBuffer)
	wantTake(t, b, edge-1, "z", 1)
	refuses(t, b, edge, "z", api.ErrReasmEdge)
	refuses(t, b, edge-1, "zz", api.ErrReasmEdge)
	refuses(t, b, edge-3, "z", api.ErrReasmGaps)
	if k, e := b.Take(api.MaxOff, stream); k != len(stream) || e != api.OK {
		t.Fatalf("Take: %d %d", k, e)
	}
	wantFin(t, b, edge-1, api.ErrReasmFin)
	wantFin(t, b, edge, api.OK)
	x, told, e := b.Read(math.MaxInt)
	if !bytes.Equal(x, stream) || told || e != api.OK {
		t.Errorf("Read: %d bytes, %v %d", len(x), told, e)
	}
	wantRanges(t, "the last byte", b, edge-1, edge)
	wantAt(t, "behind it", b, api.MaxOff+1<<21, api.MaxOff+1<<21, api.MaxOff+1<<21, edge+1<<21)
}

// P8.9: what is handed in is neither changed nor kept, nor what lies behind it.
func TestMemoryOfTake(t *testing.T) {
	b := fresh(t, 0, 10, 3)
	behind := []byte("abcdefgh")
	data := behind[:3]
	if k, e := b.Take(2, data); k != 3 || e != api.OK {
		t.Fatalf("Take: %d %d", k, e)
	}
	b.Take(0, data[:2])
	b.Take(5, data[1:2])
	if string(behind) != "abcdefgh" {
		t.Errorf("what was handed in is now %q", behind)
	}
	copy(behind, "ZZZZZZZZ")
	wantRead(t, b, 9, "ababcb", false)
	b.Take(6, []byte("x"))
	if string(behind) != "ZZZZZZZZ" {
		t.Errorf("what was handed in earlier is now %q", behind)
	}
}

// P8.9: who writes into what Read answered, or appends to it, changes neither the buffer nor another answer.
func TestMemoryOfRead(t *testing.T) {
	b := fresh(t, 0, 100, 3)
	wantTake(t, b, 0, "abcdefghij", 10)
	x, _, _ := b.Read(3)
	y, _, _ := b.Read(3)
	spoil(x)
	if string(y) != "def" {
		t.Errorf("the second answer is now %q", y)
	}
	spoil(y)
	none, _, _ := b.Read(0)
	spoil(none)
	wantTake(t, b, 10, "klm", 3)
	spoil(x)
	wantRead(t, b, 99, "ghijklm", false)
	if string(x) != "ZZZ" || string(y) != "ZZZ" {
		t.Errorf("earlier answers are now %q and %q", x, y)
	}
}

// spoil writes over bytes and all the room behind them.
func spoil(b []byte) {
	for i := range b[:cap(b)] {
		b[:cap(b)][i] = 'Z'
	}
	_ = append(b, "ZZZZZZZZZZZZZZZZ"...)
}

// P8.9: who writes into the ranges of a State changes neither the buffer nor another State.
func TestMemoryOfState(t *testing.T) {
	b := fresh(t, 0, 100, 9)
	for i := range uint64(5) {
		wantTake(t, b, 3*i, "x", 1)
	}
	s, other := b.State(), b.State()
	room := s.Ranges[:cap(s.Ranges)]
	for i := range room {
		room[i] = api.Range{Lo: 7, Hi: last}
	}
	_ = append(s.Ranges, spans(1, 2, 3, 4)...)
	want := spans(0, 1, 3, 4, 6, 7, 9, 10, 12, 13)
	if !slices.Equal(other.Ranges, want) {
		t.Errorf("the other one: %v, want %v", other.Ranges, want)
	}
	wantTake(t, b, 15, "y", 1)
	wantRanges(t, "the buffer", b, 0, 1, 3, 4, 6, 7, 9, 10, 12, 13, 15, 16)
	wantTake(t, b, 1, "zz", 2)
	wantRead(t, b, 9, "xzzx", false)
	if !slices.Equal(other.Ranges, want) {
		t.Errorf("the other one behind more calls: %v, want %v", other.Ranges, want)
	}
}

// Rule 0.3: two buffers know nothing of one another, and looking changes nothing.
func TestApart(t *testing.T) {
	a, b := fresh(t, 0, 10, 2), fresh(t, 0, 10, 2)
	wantTake(t, a, 0, "abc", 3)
	wantFin(t, a, 4, api.OK)
	wantState(t, "the other one", b, api.ReasmState{Cap: 10, Gaps: 2})
	wantTake(t, b, 0, "ABCDE", 5)
	for range 3 {
		wantState(t, "looked at", a, api.ReasmState{Cap: 10, Gaps: 2, Gap: 3, Ranges: spans(0, 3), Fin: 4, Ends: true})
		wantAt(t, "looked at", a, 0, 3, 3, 10)
	}
	wantRead(t, a, 9, "abc", false)
	wantRead(t, b, 9, "ABCDE", false)
}

// The chapter's word of a Buffer that New did not give.
func TestBufferThatNewDidNotGive(t *testing.T) {
	for _, b := range []*reasm.Buffer{nil, {}, new(reasm.Buffer)} {
		for range 2 {
			for _, c := range []struct {
				off  uint64
				data string
			}{{0, "x"}, {0, ""}, {last, "xy"}, {1, "x"}} {
				if k, e := b.Take(c.off, []byte(c.data)); k != 0 || e != api.ErrReasmCap {
					t.Errorf("Take(%d, %q): %d %d", c.off, c.data, k, e)
				}
			}
			for _, off := range []uint64{0, 1, last} {
				if e := b.Fin(off); e != api.ErrReasmCap {
					t.Errorf("Fin(%d): %d", off, e)
				}
			}
			for _, n := range []int{math.MinInt, -1, 0, 1, math.MaxInt} {
				if x, told, e := b.Read(n); len(x) != 0 || told || e != api.ErrReasmCap {
					t.Errorf("Read(%d): %q %v %d", n, x, told, e)
				}
			}
			if b.Next() != 0 || b.Edge() != 0 {
				t.Errorf("Next %d, Edge %d", b.Next(), b.Edge())
			}
			if s := b.State(); !sameState(s, api.ReasmState{}) {
				t.Errorf("State %+v", s)
			}
		}
	}
}

// The chapter's examples 1 to 4.
func TestExampleOfAStream(t *testing.T) {
	b := fresh(t, 10, 8, 4)
	wantTake(t, b, 12, "cd", 2)
	wantAt(t, "1", b, 10, 10, 10, 18)
	wantRanges(t, "1", b, 12, 14)
	wantTake(t, b, 10, "abXY", 2)
	wantAt(t, "1", b, 10, 14, 14, 18)
	wantRanges(t, "1", b, 10, 14)
	wantRead(t, b, 3, "abc", false)
	wantAt(t, "1", b, 13, 14, 14, 21)
	wantRead(t, b, 0, "", false)
	wantRead(t, b, 9, "d", false)

	wantTake(t, b, 10, "zzzzE", 1)
	wantRead(t, b, 9, "E", false)
	refuses(t, b, 15, "", api.ErrReasmEmpty)
	wantAt(t, "2", b, 15, 15, 15, 23)
	refuses(t, b, 20, "1234", api.ErrReasmEdge)
	wantTake(t, b, 20, "123", 3)

	wantFin(t, b, 22, api.ErrReasmFin)
	wantFin(t, b, 23, api.OK)
	wantFin(t, b, 23, api.OK)
	wantFin(t, b, 24, api.ErrReasmEdge)
	wantFin(t, b, 14, api.ErrReasmFin)
	wantAt(t, "3", b, 15, 15, 15, 23)
	wantTake(t, b, 15, "abcde", 5)
	wantAt(t, "3", b, 15, 23, 24, 23)
	wantRead(t, b, 100, "abcde123", false)
	wantRead(t, b, 100, "", true)
	wantRead(t, b, 0, "", true)

	wantTake(t, b, 22, "3", 0)
	refuses(t, b, 22, "34", api.ErrReasmFin)
}

// The chapter's examples 5 to 8, but for those of New, which stand above.
func TestExampleOfEdges(t *testing.T) {
	b := fresh(t, 0, 4, 1)
	wantFin(t, b, 0, api.OK)
	wantAt(t, "5", b, 0, 0, 1, 4)
	wantRead(t, b, 5, "", true)
	refuses(t, b, 0, "x", api.ErrReasmFin)
	refuses(t, b, 18446744073709551615, "xy", api.ErrReasmEdge)

	b = fresh(t, 0, 20, 1)
	wantTake(t, b, 4, "e", 1)
	refuses(t, b, 8, "i", api.ErrReasmGaps)
	wantTake(t, b, 5, "f", 1)
	wantTake(t, b, 0, "ab", 2)
	refuses(t, b, 8, "i", api.ErrReasmGaps)
	wantTake(t, b, 2, "cd", 2)
	wantAt(t, "7", b, 0, 6, 6, 20)
	wantRanges(t, "7", b, 0, 6)
	wantTake(t, b, 8, "i", 1)
	wantRanges(t, "7", b, 0, 6, 8, 9)
}
