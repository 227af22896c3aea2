package reasm_test

import (
	"math"
	"math/bits"
	"slices"
	"testing"

	"braid/api"
	"braid/reasm"
)

// dice gives the same row of numbers in every run.
type dice uint64

func (d *dice) below(n uint64) uint64 {
	*d = *d*6364136223846793005 + 1442695040888963407
	return uint64(*d) >> 20 % n
}

func (d *dice) oneOf(l ...uint64) uint64 { return l[d.below(uint64(len(l)))] }

func (d *dice) bytes(n uint64) []byte {
	b := make([]byte, n)
	for i := range b {
		b[i] = byte(d.below(256))
	}
	return b
}

// model is a Buffer as the chapter words it: all bytes that have ever come, one by one, those that were read too.
type model struct {
	base, read uint64
	cap, gaps  int
	come       map[uint64]byte
	fin        uint64
	ends       bool
}

func newModel(base uint64, cap, gaps int) *model {
	return &model{base: base, read: base, cap: cap, gaps: gaps, come: map[uint64]byte{}}
}

func (m *model) edge() uint64 { return m.read + uint64(m.cap) }

func (m *model) gap() uint64 {
	x := m.read
	for {
		if _, ok := m.come[x]; !ok {
			return x
		}
		x++
	}
}

// stretches is the ranges of these offsets, from Read on.
func (m *model) stretches(come map[uint64]byte) []api.Range {
	var offs []uint64
	for x := range come {
		if x >= m.read {
			offs = append(offs, x)
		}
	}
	slices.Sort(offs)
	var l []api.Range
	for _, x := range offs {
		if n := len(l); n > 0 && l[n-1].Hi == x {
			l[n-1].Hi++
			continue
		}
		l = append(l, api.Range{Lo: x, Hi: x + 1})
	}
	return l
}

func (m *model) apart(l []api.Range) int {
	n := 0
	for _, r := range l {
		if r.Lo != m.read {
			n++
		}
	}
	return n
}

func (m *model) take(off uint64, data []byte) (int, api.Errno) {
	sum, over := bits.Add64(off, uint64(len(data)), 0)
	switch {
	case len(data) == 0:
		return 0, api.ErrReasmEmpty
	case over == 1 || sum > m.edge():
		return 0, api.ErrReasmEdge
	case m.ends && sum > m.fin:
		return 0, api.ErrReasmFin
	}
	behind := map[uint64]byte{}
	for x, c := range m.come {
		behind[x] = c
	}
	n := 0
	for i, c := range data {
		x := off + uint64(i)
		if _, ok := behind[x]; !ok && x >= m.read {
			behind[x] = c
			n++
		}
	}
	if m.apart(m.stretches(behind)) > m.gaps {
		return 0, api.ErrReasmGaps
	}
	m.come = behind
	return n, api.OK
}

func (m *model) end(off uint64) api.Errno {
	if off > m.edge() {
		return api.ErrReasmEdge
	}
	if m.ends && off != m.fin || off < m.read {
		return api.ErrReasmFin
	}
	for x := range m.come {
		if x >= off {
			return api.ErrReasmFin
		}
	}
	m.fin, m.ends = off, true
	return api.OK
}

func (m *model) readUpTo(n int) ([]byte, bool, api.Errno) {
	if n < 0 {
		return nil, false, api.ErrReasmCount
	}
	var out []byte
	for to := m.gap(); m.read < to && len(out) < n; m.read++ {
		out = append(out, m.come[m.read])
	}
	return out, len(out) == 0 && m.ends && m.fin == m.gap() && m.read == m.gap(), api.OK
}

func (m *model) next() uint64 {
	if m.ends && m.fin == m.gap() {
		return m.gap() + 1
	}
	return m.gap()
}

func (m *model) state() api.ReasmState {
	return api.ReasmState{
		Base: m.base, Cap: m.cap, Gaps: m.gaps, Read: m.read, Gap: m.gap(),
		Ranges: m.stretches(m.come), Fin: m.fin, Ends: m.ends,
	}
}

func sameState(a, b api.ReasmState) bool {
	return a.Base == b.Base && a.Cap == b.Cap && a.Gaps == b.Gaps && a.Read == b.Read && a.Gap == b.Gap &&
		slices.Equal(a.Ranges, b.Ranges) && a.Fin == b.Fin && a.Ends == b.Ends
}

// someOff is mostly an offset around what is there, and at times any.
func someOff(d *dice, m *model) uint64 {
	near := uint64(min(m.cap, 3000))
	switch d.below(10) {
	case 0:
		return m.gap() - min(m.gap(), d.below(4))
	case 1:
		return m.gap() + d.below(4)
	case 2:
		return m.edge() - d.below(near+1)
	case 3:
		return m.edge() + d.below(3)
	case 4:
		return m.read - min(m.read, d.below(near+1))
	case 5:
		return m.fin
	case 6:
		return d.oneOf(0, 1, m.base, 1<<62, 1<<63, math.MaxUint64-3, math.MaxUint64-1, math.MaxUint64)
	}
	return m.read + d.below(near+1)
}

// someLen is mostly the length of a piece of the buffer, and at times up to an edge, or more than there may be.
func someLen(d *dice, m *model, off uint64) uint64 {
	near := uint64(min(m.cap, 3000))
	up := func(to uint64) uint64 {
		if to < off || to-off > near {
			return d.below(3)
		}
		return to - off
	}
	switch d.below(12) {
	case 0:
		return 0
	case 1:
		return up(m.edge())
	case 2:
		return up(m.edge()) + 1
	case 3:
		return up(m.fin)
	case 4:
		return up(m.fin) + 1
	case 5:
		return up(m.gap())
	case 6:
		return d.below(near + 2)
	}
	return 1 + d.below(near/8+2)
}

func someCount(d *dice, m *model) int {
	switch d.below(6) {
	case 0:
		return int(d.oneOf(1<<63, math.MaxUint64, 0, math.MaxInt))
	case 1:
		return int(m.gap()-m.read) + int(d.below(3)) - 1
	}
	return int(d.below(uint64(min(m.cap, 3000)) + 1))
}

// play makes one call of both, and holds what they answer against each other.
func play(t *testing.T, d *dice, b *reasm.Buffer, m *model) {
	t.Helper()
	switch d.below(12) {
	case 0:
		off := someOff(d, m)
		// An end that comes early bars most of what would follow it.
		if d.below(3) > 0 && !m.ends {
			return
		}
		if got, want := b.Fin(off), m.end(off); got != want {
			t.Fatalf("Fin(%d): %d, want %d", off, got, want)
		}
	case 1, 2, 3:
		n := someCount(d, m)
		x, last, e := b.Read(n)
		y, wantLast, want := m.readUpTo(n)
		if !slices.Equal(x, y) || last != wantLast || e != want {
			t.Fatalf("Read(%d): %q %v %d, want %q %v %d", n, x, last, e, y, wantLast, want)
		}
	default:
		off := someOff(d, m)
		data := d.bytes(someLen(d, m, off))
		given := slices.Clone(data)
		n, e := b.Take(off, data)
		wantN, want := m.take(off, given)
		if n != wantN || e != want || !slices.Equal(data, given) {
			t.Fatalf("Take(%d, %d bytes): %d %d, want %d %d", off, len(data), n, e, wantN, want)
		}
		clear(data)
	}
}

// bounded is P8.6 of a state, but for what never falls.
func bounded(t *testing.T, b *reasm.Buffer) {
	t.Helper()
	s := b.State()
	count, apart := uint64(0), 0
	for _, r := range s.Ranges {
		count += r.Hi - r.Lo
		if r.Lo != s.Read {
			apart++
		}
		if r.Lo < s.Read || r.Hi > b.Edge() || s.Ends && r.Hi > s.Fin {
			t.Fatalf("%v reaches too far: %+v", r, s)
		}
	}
	if s.Read > s.Gap || s.Gap > b.Edge() || count > uint64(s.Cap) || len(s.Ranges) > (s.Cap+1)/2 || apart > s.Gaps {
		t.Fatalf("out of bounds: %+v", s)
	}
}

// P8.1 to P8.6: rows of calls, each held against the model.
func TestModel(t *testing.T) {
	d := dice(8)
	rows := 700
	if testing.Short() {
		rows = 70
	}
	for range rows {
		base := d.oneOf(0, 1, 10, 1020, 1023, 1024, 1<<62-1, 1<<62)
		size := int(d.oneOf(1, 2, 3, 8, 9, 20, 60, 150))
		gaps := int(d.oneOf(1, 1, 2, 3, 5, 63, 64))
		b, e := reasm.New(base, size, gaps)
		if e != api.OK {
			t.Fatalf("New(%d, %d, %d): %d", base, size, gaps, e)
		}
		m := newModel(base, size, gaps)
		rowOfCalls(t, &d, b, m, 120)
	}
}

// The same of buffers that have room for several chunks of the greatest length, or are as great as may be.
func TestModelOfGreatBuffers(t *testing.T) {
	d := dice(88)
	rows := 12
	if testing.Short() {
		rows = 3
	}
	for i := range rows {
		base := d.oneOf(0, 700, 1<<62)
		size := []int{1500, api.MaxBuffer, 3000}[i%3]
		b, e := reasm.New(base, size, 64)
		if e != api.OK {
			t.Fatalf("New(%d, %d, 64): %d", base, size, e)
		}
		rowOfCalls(t, &d, b, newModel(base, size, 64), 60)
	}
}

func rowOfCalls(t *testing.T, d *dice, b *reasm.Buffer, m *model, calls int) {
	t.Helper()
	next, edge := b.Next(), b.Edge()
	for range calls {
		play(t, d, b, m)
		if got, want := b.State(), m.state(); !sameState(got, want) {
			t.Fatalf("%+v, want %+v", got, want)
		}
		if b.Next() != m.next() || b.Edge() != m.edge() {
			t.Fatalf("Next %d, want %d; Edge %d, want %d", b.Next(), m.next(), b.Edge(), m.edge())
		}
		if b.Next() < next || b.Edge() < edge {
			t.Fatalf("Next fell from %d to %d, or Edge from %d to %d", next, b.Next(), edge, b.Edge())
		}
		next, edge = b.Next(), b.Edge()
		bounded(t, b)
	}
}

// P8.7: what the first chunk to bring a byte, and taken, said of it is read, in order and once; the end behind all.
func TestFirstSayIsRead(t *testing.T) {
	d := dice(87)
	rows := 200
	if testing.Short() {
		rows = 20
	}
	for range rows {
		base, to := d.oneOf(0, 5, 1<<62), uint64(60)
		b, _ := reasm.New(base, int(2+d.below(30)), int(1+d.below(4)))
		first := map[uint64]byte{}
		var read []byte
		ended := false
		for i := 0; !ended; i++ {
			if i > 20000 {
				t.Fatalf("never at the end: %+v", b.State())
			}
			b.Fin(base + to)
			off := base + d.below(to)
			data := d.bytes(1 + d.below(6))
			if _, e := b.Take(off, data); e == api.OK {
				note(first, off, data)
			}
			var x []byte
			x, ended, _ = b.Read(int(d.below(5)))
			read = append(read, x...)
		}
		if uint64(len(read)) != to {
			t.Fatalf("the end behind %d bytes, want %d", len(read), to)
		}
		for i, c := range read {
			if want, ok := first[base+uint64(i)]; !ok || c != want {
				t.Fatalf("byte %d: %d, want %d %v", i, c, want, ok)
			}
		}
	}
}

// note keeps what the first chunk said of each offset. (What lies below Read has come already.)
func note(first map[uint64]byte, off uint64, data []byte) {
	for i, c := range data {
		if _, ok := first[off+uint64(i)]; !ok {
			first[off+uint64(i)] = c
		}
	}
}

// P8.8: the same offsets, cut and ordered otherwise, leave the same Gap and Ranges; what is read is the stream's beginning.
func TestAnyOrder(t *testing.T) {
	d := dice(888)
	rows := 400
	if testing.Short() {
		rows = 40
	}
	for range rows {
		base := d.oneOf(0, 9, 1000, 1<<62)
		stream := d.bytes(80)
		has := make([]bool, len(stream))
		for range d.below(9) {
			from := d.below(70)
			for i := from; i < from+1+d.below(9); i++ {
				has[i] = true
			}
		}
		one, two := offered(t, &d, base, stream, has), offered(t, &d, base, stream, has)
		s := one.State()
		if !sameState(s, two.State()) {
			t.Fatalf("%+v and %+v", s, two.State())
		}
		if got, want := s.Ranges, rangesOf(base, has); !slices.Equal(got, want) {
			t.Fatalf("Ranges %v, want %v", got, want)
		}
		x, _, _ := one.Read(100)
		y, _, _ := two.Read(100)
		if !slices.Equal(x, y) || !slices.Equal(x, stream[:s.Gap-base]) {
			t.Fatalf("read %q and %q, want %q", x, y, stream[:s.Gap-base])
		}
	}
}

// offered is a buffer to which these bytes of a stream came in some order and cut somehow, some of them twice.
func offered(t *testing.T, d *dice, base uint64, stream []byte, has []bool) *reasm.Buffer {
	t.Helper()
	b, _ := reasm.New(base, 100, 64)
	left := map[int]bool{}
	for i, h := range has {
		if h {
			left[i] = true
		}
	}
	for len(left) > 0 {
		from := int(d.below(uint64(len(stream))))
		to := from
		for to < len(stream) && has[to] && d.below(4) > 0 {
			delete(left, to)
			to++
		}
		if to == from {
			continue
		}
		if _, e := b.Take(base+uint64(from), stream[from:to]); e != api.OK {
			t.Fatalf("Take: %d", e)
		}
	}
	return b
}

func rangesOf(base uint64, has []bool) []api.Range {
	var l []api.Range
	for i, h := range has {
		if !h {
			continue
		}
		x := base + uint64(i)
		if n := len(l); n > 0 && l[n-1].Hi == x {
			l[n-1].Hi++
			continue
		}
		l = append(l, api.Range{Lo: x, Hi: x + 1})
	}
	return l
}
