package sendbuf_test

import (
	"bytes"
	"math"
	"slices"
	"testing"

	"braid/api"
	"braid/sendbuf"
)

// dice gives the same row of numbers in every run.
type dice uint64

func (d *dice) below(n uint64) uint64 {
	*d = *d*6364136223846793005 + 1442695040888963407
	return uint64(*d) >> 20 % n
}

func (d *dice) oneOf(l ...uint64) uint64 { return l[d.below(uint64(len(l)))] }

func (d *dice) bytes(n uint64) []byte {
	b := make([]byte, n)
	for i := range b {
		b[i] = byte(d.below(256))
	}
	return b
}

// piece is a chunk that was made at some time.
type piece struct {
	off   uint64
	bytes []byte
	fin   bool
	on    map[int]bool
	out   bool
	held  bool
}

// model is a Buffer as the chapter words it: all chunks that there ever were, each asked whether it is there still.
type model struct {
	base, edge, acked, high uint64
	room, mss               int
	closed                  bool
	pieces                  []*piece
}

func newModel(base uint64, room, mss int, edge uint64) *model {
	return &model{
		base: min(base, 1<<62), acked: min(base, 1<<62), high: min(base, 1<<62), edge: edge,
		room: min(max(room, 1), 65536), mss: min(max(mss, 1), 1024),
	}
}

func (m *model) end() uint64 {
	end := m.base
	for _, p := range m.pieces {
		end += uint64(len(p.bytes))
	}
	return end
}

func (m *model) free() int {
	n := m.room
	for x := m.acked; x < m.end(); x++ {
		n--
	}
	return n
}

func (m *model) write(p []byte) int {
	if m.closed {
		return 0
	}
	n := len(p)
	if n > m.free() {
		n = m.free()
	}
	if uint64(n) > 1<<62-m.end() {
		n = int(1<<62 - m.end())
	}
	for i := 0; i < n; i += m.mss {
		m.pieces = append(m.pieces, &piece{off: m.end(), bytes: bytes.Clone(p[i:min(i+m.mss, n)]), on: map[int]bool{}})
	}
	return n
}

func (m *model) close() bool {
	if m.closed {
		return false
	}
	m.closed = true
	m.pieces = append(m.pieces, &piece{off: m.end(), fin: true, on: map[int]bool{}})
	return true
}

func (m *model) ack(v, edge uint64) bool {
	most := m.high
	if m.closed && m.pieces[len(m.pieces)-1].out {
		most++
	}
	if v > most {
		return false
	}
	news := false
	if v > m.acked {
		m.acked, news = v, true
	}
	if edge > m.edge {
		m.edge, news = edge, true
	}
	return news
}

// there tells whether a chunk is one still.
func (m *model) there(p *piece) bool {
	if p.fin {
		return m.acked <= p.off
	}
	return p.off+uint64(len(p.bytes))-1 >= m.acked
}

func (m *model) mayGo(p *piece) bool {
	if !p.fin {
		return p.off+uint64(len(p.bytes))-1 < m.edge
	}
	for _, q := range m.pieces {
		if !q.fin && !q.out && m.there(q) {
			return false
		}
	}
	return true
}

func (m *model) at(off uint64) *piece {
	for _, p := range m.pieces {
		if p.off == off && m.there(p) {
			return p
		}
	}
	return nil
}

func isPath(path int) bool { return path >= 0 && path <= 7 }

func (m *model) may(path int, off uint64, n int) bool {
	p := m.at(off)
	return isPath(path) && p != nil && len(p.bytes) == n && m.mayGo(p) && !p.held && !p.on[path]
}

func (m *model) sent(path int, off uint64) bool {
	p := m.at(off)
	if p == nil || !m.may(path, off, len(p.bytes)) {
		return false
	}
	p.on[path], p.out = true, true
	m.high = max(m.high, off+uint64(len(p.bytes)))
	return true
}

func (m *model) lost(path int, off uint64) bool {
	p := m.at(off)
	if p == nil || !p.on[path] {
		return false
	}
	delete(p.on, path)
	return true
}

func (m *model) hold(path int, off uint64) bool {
	p := m.at(off)
	ok := m.lost(path, off)
	if ok {
		p.held = true
	}
	return ok
}

func (p *piece) shown() api.Chunk {
	c := api.Chunk{Off: p.off, Len: len(p.bytes), Fin: p.fin, Held: p.held}
	for path := range 8 {
		if p.on[path] {
			c.On = append(c.On, path)
		}
	}
	return c
}

func (m *model) chunks() []api.Chunk {
	var l []api.Chunk
	for _, p := range m.pieces {
		if m.there(p) {
			l = append(l, p.shown())
		}
	}
	return l
}

func (m *model) want() (api.Chunk, bool) {
	for _, p := range m.pieces {
		if m.there(p) && m.mayGo(p) && !p.held && len(p.on) == 0 {
			return p.shown(), true
		}
	}
	return api.Chunk{}, false
}

func (m *model) next(path int) (api.Chunk, bool) {
	for _, p := range m.pieces {
		if isPath(path) && m.there(p) && m.mayGo(p) && !p.held && !p.on[path] {
			return p.shown(), true
		}
	}
	return api.Chunk{}, false
}

func sameChunk(a, b api.Chunk) bool {
	return a.Off == b.Off && a.Len == b.Len && a.Fin == b.Fin && slices.Equal(a.On, b.On) && a.Held == b.Held
}

// sameLooks holds all that a Buffer tells against the model.
func sameLooks(t *testing.T, d *dice, b *sendbuf.Buffer, m *model) {
	t.Helper()
	if b.Acked() != m.acked || b.High() != m.high || b.End() != m.end() || b.Edge() != m.edge || b.Free() != m.free() {
		t.Fatalf("Acked %d High %d End %d Edge %d Free %d, want %d %d %d %d %d",
			b.Acked(), b.High(), b.End(), b.Edge(), b.Free(), m.acked, m.high, m.end(), m.edge, m.free())
	}
	if b.Closed() != m.closed || b.Done() != (m.closed && m.acked > m.end()) {
		t.Fatalf("Closed %v, want %v; Done %v", b.Closed(), m.closed, b.Done())
	}
	if got, want := b.Chunks(), m.chunks(); !slices.EqualFunc(got, want, sameChunk) {
		t.Fatalf("Chunks %+v, want %+v", got, want)
	}
	c, ok := b.Want()
	if want, wantOk := m.want(); ok != wantOk || !sameChunk(c, want) {
		t.Fatalf("Want %+v %v, want %+v %v", c, ok, want, wantOk)
	}
	for path := -1; path <= 8; path++ {
		c, ok := b.Next(path)
		if want, wantOk := m.next(path); ok != wantOk || !sameChunk(c, want) {
			t.Fatalf("Next(%d) %+v %v, want %+v %v", path, c, ok, want, wantOk)
		}
	}
	path, off := somePath(d), someOff(d, m)
	n := someLen(d, m, off)
	if got, want := b.May(path, off, n), m.may(path, off, n); got != want {
		t.Fatalf("May(%d, %d, %d): %v", path, off, n, got)
	}
	var want []byte
	if p := m.at(off); p != nil {
		want = p.bytes
	}
	if got := b.Bytes(off); !bytes.Equal(got, want) {
		t.Fatalf("Bytes(%d): %q, want %q", off, got, want)
	}
}

// someOff is mostly the offset of a chunk that there is or was, and at times any.
func someOff(d *dice, m *model) uint64 {
	switch k := d.below(12); {
	case k == 0:
		return d.oneOf(0, 1, m.base, 1<<62, 1<<62+1, 1<<63, math.MaxUint64)
	case k == 1:
		return m.end() + d.below(3) - 1
	case k == 2:
		return m.base + d.below(m.end()-m.base+2)
	case k < 6 && len(m.pieces) > 0:
		return m.pieces[d.below(uint64(len(m.pieces)))].off
	}
	if l := m.chunks(); len(l) > 0 {
		return l[d.below(uint64(len(l)))].Off
	}
	return m.end()
}

// someLen is mostly the length of the chunk there.
func someLen(d *dice, m *model, off uint64) int {
	n := 0
	if p := m.at(off); p != nil {
		n = len(p.bytes)
	}
	switch d.below(8) {
	case 0:
		return int(d.oneOf(0, 1, math.MaxUint64, 1<<63, math.MaxInt))
	case 1:
		return n + int(d.below(3)) - 1
	}
	return n
}

func somePath(d *dice) int {
	if d.below(8) == 0 {
		return int(d.oneOf(math.MaxUint64, 8, 9, 64, 256, 1<<63, math.MaxInt))
	}
	return int(d.oneOf(0, 0, 1, 1, 2, 7))
}

// someV is mostly around what was acknowledged and what has gone out.
func someV(d *dice, m *model) uint64 {
	switch d.below(6) {
	case 0:
		return d.oneOf(0, m.base, 1<<62, 1<<62+1, math.MaxUint64)
	case 1:
		return m.acked - min(m.acked, d.below(3))
	case 2, 3:
		return m.high + d.below(3)
	}
	return m.acked + d.below(4)
}

func someEdge(d *dice, m *model) uint64 {
	switch d.below(12) {
	case 0:
		return d.oneOf(0, 1, m.base)
	case 1:
		return d.oneOf(1<<62, 1<<63, math.MaxUint64)
	case 2, 3, 4:
		return m.end() - min(m.end(), d.below(4))
	}
	return m.edge - min(m.edge, 3) + d.below(8)
}

// play makes one call of both, and holds what they answer against each other.
func play(t *testing.T, d *dice, b *sendbuf.Buffer, m *model) {
	t.Helper()
	path, off := somePath(d), someOff(d, m)
	switch k := d.below(40); {
	case k < 9:
		p := d.bytes(d.oneOf(0, 1, 2, 3, 4, 5, 9, uint64(m.free()), uint64(m.free())+1))
		given := bytes.Clone(p)
		if got, want := b.Write(p), m.write(given); got != want || !bytes.Equal(p, given) {
			t.Fatalf("Write of %d: %d, want %d", len(p), got, want)
		}
		clear(p)
	case k == 9:
		// A stream that is closed early is of little use for what follows.
		if d.below(4) > 0 {
			return
		}
		if got, want := b.Close(), m.close(); got != want {
			t.Fatalf("Close: %v", got)
		}
	case k < 17:
		v, edge := someV(d, m), someEdge(d, m)
		if got, want := b.Ack(v, edge), m.ack(v, edge); got != want {
			t.Fatalf("Ack(%d, %d): %v", v, edge, got)
		}
	case k < 31:
		if got, want := b.Sent(path, off), m.sent(path, off); got != want {
			t.Fatalf("Sent(%d, %d): %v", path, off, got)
		}
	case k < 36:
		if got, want := b.Lost(path, off), m.lost(path, off); got != want {
			t.Fatalf("Lost(%d, %d): %v", path, off, got)
		}
	default:
		if got, want := b.Held(path, off), m.hold(path, off); got != want {
			t.Fatalf("Held(%d, %d): %v", path, off, got)
		}
	}
}

// someBuffer is one with ordinary bounds or with ones at the edges, and its model.
func someBuffer(d *dice) (*sendbuf.Buffer, *model) {
	base := d.oneOf(0, 0, 1, 100, 1<<62-9, 1<<62-1, 1<<62, 1<<62+1, math.MaxUint64)
	room := int(d.oneOf(1<<63, 0, 1, 2, 5, 9, 20, 20, 40))
	mss := int(d.oneOf(math.MaxUint64, 0, 1, 2, 3, 4, 7, 1024, math.MaxInt))
	edge := min(base, 1<<62) + d.oneOf(0, 1, 5, 10, 20, 1<<62)
	if d.below(10) == 0 {
		edge = d.oneOf(0, math.MaxUint64)
	}
	return sendbuf.New(base, room, mss, edge), newModel(base, room, mss, edge)
}

// P9.1 to P9.8: rows of calls, each held against the model.
func TestModel(t *testing.T) {
	d := dice(9)
	rows := 1200
	if testing.Short() {
		rows = 120
	}
	for range rows {
		b, m := someBuffer(&d)
		sameLooks(t, &d, b, m)
		for range 120 {
			play(t, &d, b, m)
			sameLooks(t, &d, b, m)
		}
	}
}

// sideBySide is P9.9 of a Buffer, of which all these bytes were accepted from base on.
func sideBySide(t *testing.T, b *sendbuf.Buffer, base uint64, all []byte) {
	t.Helper()
	if b.Free() < 0 {
		t.Fatalf("Free is %d", b.Free())
	}
	l := b.Chunks()
	if len(l) == 0 {
		return
	}
	at := l[0].Off
	for i, c := range l {
		if c.Off != at || c.Len == 0 != c.Fin || c.Fin && i != len(l)-1 {
			t.Fatalf("at %d: %+v", at, l)
		}
		if got, want := b.Bytes(at), all[at-base:at-base+uint64(c.Len)]; !bytes.Equal(got, want) {
			t.Fatalf("Bytes(%d): %q, want %q", at, got, want)
		}
		at += uint64(c.Len)
	}
	if at != b.End() {
		t.Fatalf("up to %d, the end is %d", at, b.End())
	}
}

// wantedByAll is P9.11 of a Buffer of which these offsets were held.
func wantedByAll(t *testing.T, b *sendbuf.Buffer, held map[uint64]bool) {
	t.Helper()
	want, has := b.Want()
	if has && held[want.Off] {
		t.Fatalf("Want %+v was held", want)
	}
	for path := range api.MaxPaths {
		c, ok := b.Next(path)
		if has && (!ok || c.Off > want.Off) {
			t.Fatalf("Want %+v, Next(%d) %+v %v", want, path, c, ok)
		}
		if ok && held[c.Off] {
			t.Fatalf("Next(%d) %+v was held", path, c)
		}
	}
}

// P9.9 and P9.11: they hold behind every call of a row.
func TestWhatFollows(t *testing.T) {
	d := dice(99)
	rows := 300
	if testing.Short() {
		rows = 30
	}
	for range rows {
		base := d.oneOf(0, 100, 1<<62-20)
		b := sendbuf.New(base, int(1+d.below(30)), int(1+d.below(5)), base+d.below(20))
		var all []byte
		held := map[uint64]bool{}
		for range 150 {
			path := int(d.below(3))
			switch d.below(7) {
			case 0, 1:
				p := d.bytes(d.below(12))
				all = append(all, p[:b.Write(p)]...)
			case 2:
				b.Ack(b.Acked()+d.below(b.High()-min(b.High(), b.Acked())+2), b.Edge()+d.below(4))
			case 3:
				if d.below(20) == 0 {
					b.Close()
				}
			case 4:
				off := base + d.below(uint64(len(all))+1)
				if b.Held(path, off) {
					held[off] = true
				}
			case 5:
				b.Lost(path, base+d.below(uint64(len(all))+1))
			default:
				if c, ok := b.Next(path); ok && !b.Sent(path, c.Off) {
					t.Fatalf("Next(%d) %+v does not go out", path, c)
				}
			}
			if b.End() != base+uint64(len(all)) {
				t.Fatalf("End %d behind %d bytes from %d on", b.End(), len(all), base)
			}
			sideBySide(t, b, base, all)
			wantedByAll(t, b, held)
		}
	}
}

// cut is the chunks that Writes with these answers make.
func cut(base uint64, mss int, answers []int) []api.Range {
	var l []api.Range
	for _, n := range answers {
		for n > 0 {
			k := min(n, mss)
			l = append(l, api.Range{Lo: base, Hi: base + uint64(k)})
			base += uint64(k)
			n -= k
		}
	}
	return l
}

// P9.10: whatever goes out, is lost or acknowledged between the Writes, the chunks are those that their answers make.
func TestCutAlike(t *testing.T) {
	d := dice(910)
	rows := 400
	if testing.Short() {
		rows = 40
	}
	for range rows {
		base, mss := d.oneOf(0, 7, 1<<62-30), int(1+d.below(5))
		b := sendbuf.New(base, int(5+d.below(20)), mss, d.oneOf(base+9, 1<<63))
		var answers []int
		ever := map[uint64]int{}
		for range 60 {
			switch d.below(4) {
			case 0:
				answers = append(answers, b.Write(d.bytes(d.below(14))))
			case 1:
				b.Ack(b.Acked()+d.below(b.High()-b.Acked()+1), b.Edge()+d.below(6))
			default:
				path := int(d.below(8))
				if c, ok := b.Next(path); ok && b.Sent(path, c.Off) && d.below(2) == 0 {
					b.Held(path, c.Off)
				}
			}
			for _, c := range b.Chunks() {
				if n, ok := ever[c.Off]; ok && n != c.Len {
					t.Fatalf("the chunk at %d has %d bytes, and had %d", c.Off, c.Len, n)
				}
				ever[c.Off] = c.Len
			}
		}
		want := cut(base, mss, answers)
		if len(want) != len(ever) {
			t.Fatalf("%d chunks, want %d", len(ever), len(want))
		}
		for _, r := range want {
			if n, ok := ever[r.Lo]; !ok || n != int(r.Hi-r.Lo) {
				t.Fatalf("the chunk at %d has %d bytes, want %d", r.Lo, n, r.Hi-r.Lo)
			}
		}
	}
}
