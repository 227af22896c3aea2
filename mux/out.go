package mux

import (
	"slices"

	"braid/api"
	"braid/muxwire"
)

// Out takes up to so many bytes that go out.
func (m *Mux) Out(most int) []byte {
	if m.fault() != api.OK || most < 1 {
		return nil
	}
	for len(m.ready) < most && m.prepare() {
	}
	n := min(most, len(m.ready))
	b := slices.Clone(m.ready[:n])
	m.ready = rest(m.ready, n)
	return b
}

// prepare lays the next frame behind the ready bytes, if there is one.
func (m *Mux) prepare() bool {
	f, ok := m.next()
	if ok {
		b, _ := muxwire.Encode(f)
		m.ready = append(m.ready, b...)
	}
	return ok
}

// next is the first frame of the row, or else the bytes of the stream whose turn it is.
func (m *Mux) next() (api.MuxFrame, bool) {
	if len(m.row) == 0 {
		return m.turn()
	}
	f := m.row[0]
	m.row = m.row[1:]
	return f, true
}

// turn makes BYTES. The turns have none of no bytes: so nothing goes out without room of all together.
func (m *Mux) turn() (api.MuxFrame, bool) {
	t, ok := m.turns.Next(int(min(api.MaxMuxPiece, m.book.Left(0))))
	if !ok {
		return api.MuxFrame{}, false
	}
	s := m.streams[t.Id]
	defer m.settle(s)
	m.book.Spend(s.id, uint64(t.N))
	f := api.MuxFrame{Kind: api.MuxBytes, Stream: s.id, Data: s.takeOut(t.N)}
	m.finish(s)
	return f, true
}
