package mux

import "braid/api"

// settle stands deferred at the head of whatever changes a stream: the turns are told what has become sendable, and a stream that is over is closed in the book, and forgotten when nobody will ask for it.
func (m *Mux) settle(s *stream) {
	if s.sends() {
		m.tellTurns(s)
	}
	if s.over() {
		m.book.Close(s.id) // an error, if it was closed already
	}
	if s.done() {
		delete(m.streams, s.id)
	}
}

// tellTurns tells them what they do not know yet of the bytes that wait and lie within the stream's own room.
func (m *Mux) tellTurns(s *stream) {
	more := min(len(s.waits), int(m.book.Left(s.id))) - s.known
	if more > 0 {
		m.turns.More(s.id, more)
		s.known += more
	}
}

// Write accepts bytes of a stream: how many.
func (m *Mux) Write(id uint64, p []byte) (int, api.Errno) {
	s, e := m.writable(id)
	if e != api.OK {
		return 0, e
	}
	defer m.settle(s)
	n := min(len(p), m.hold-len(s.waits))
	s.waits = append(s.waits, p[:n]...)
	return n, api.OK
}

// writable is a stream whose sending half is open.
func (m *Mux) writable(id uint64) (*stream, api.Errno) {
	s, e := m.find(id)
	if e == api.OK {
		e = s.barred()
	}
	return s, e
}

// Close ends this side's half of a stream.
func (m *Mux) Close(id uint64) api.Errno {
	s, e := m.writable(id)
	if e != api.OK {
		return e
	}
	defer m.settle(s)
	s.sending = api.HalfShut
	m.finish(s)
	return api.OK
}

// finish ends a half that is shut, if nothing of it waits.
func (m *Mux) finish(s *stream) {
	if s.sending != api.HalfShut || len(s.waits) > 0 {
		return
	}
	s.sending = api.HalfEnded
	m.turns.Remove(s.id)
	m.queue(api.MuxFrame{Kind: api.MuxEnd, Stream: s.id})
}

// Reset gives this side's half of a stream up.
func (m *Mux) Reset(id, code uint64) api.Errno {
	s, e := m.find(id)
	if e != api.OK {
		return e
	}
	if !s.sends() {
		return s.barred()
	}
	defer m.settle(s)
	m.giveUp(s, number(code))
	return api.OK
}

// giveUp drops what waits.
func (m *Mux) giveUp(s *stream, code uint64) {
	s.sending = api.HalfReset
	s.waits = nil
	m.turns.Remove(s.id)
	m.queue(api.MuxFrame{Kind: api.MuxReset, Stream: s.id, N: code})
}

// Read takes up to n bytes of a stream: these, and whether it has ended.
func (m *Mux) Read(id uint64, n int) ([]byte, bool, api.Errno) {
	s, e := m.find(id)
	if e != api.OK {
		return nil, false, e
	}
	defer m.settle(s)
	if e := s.mute(); e != api.OK {
		s.told = s.told || e == api.ErrMuxReset
		return nil, false, e
	}
	if s.ended() {
		s.told = true
		return nil, true, api.OK
	}
	b := s.read(n)
	m.tell(m.book.Use(s.id, uint64(len(b))))
	return b, false, api.OK
}

// Stop says that nothing more of a stream is wanted.
func (m *Mux) Stop(id, code uint64) api.Errno {
	s, e := m.find(id)
	if e != api.OK {
		return e
	}
	if s.deaf {
		return api.ErrMuxDeaf
	}
	defer m.settle(s)
	m.deafen(s, number(code))
	return api.OK
}

// deafen drops what has come, and asks for no more.
func (m *Mux) deafen(s *stream, code uint64) {
	s.deaf = true
	m.drop(s)
	if s.getting == api.HalfOpen {
		m.queue(api.MuxFrame{Kind: api.MuxStop, Stream: s.id, N: code})
	}
}

// drop lets go of what has come and was not read.
func (m *Mux) drop(s *stream) {
	s.came = nil
	m.tell(m.book.Waste(s.id))
}
