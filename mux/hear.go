package mux

import "braid/api"

// ear hears the frames of one kind; its answer is the rule that one breaks.
type ear struct {
	hear func(api.MuxFrame) api.Errno
}

// allEars has one a kind. No other kind comes: a Reader gives none.
func (m *Mux) allEars() []ear {
	return []ear{
		api.MuxOpen:  {m.hearOpen},
		api.MuxBytes: {m.hearBytes},
		api.MuxRoom:  {m.hearRoom},
		api.MuxEnd:   {m.hearEnd},
		api.MuxStop:  {m.hearStop},
		api.MuxReset: {m.hearReset},
		api.MuxPing:  {m.hearPing},
		api.MuxPong:  {m.hearPong},
		api.MuxAway:  {m.hearAway},
	}
}

// Feed hears bytes of the peer's.
func (m *Mux) Feed(b []byte) api.Errno {
	if e := m.fault(); e != api.OK {
		return e
	}
	m.reader.Write(b)
	if e := m.hearAll(); e != api.OK {
		m.broken = e
		m.row, m.ready = nil, nil
		return api.ErrMuxBroken
	}
	return api.OK
}

// hearAll hears what the Reader has, up to the first frame that breaks a rule.
func (m *Mux) hearAll() api.Errno {
	for {
		f, ok, e := m.reader.Next()
		if !ok {
			return e
		}
		if e := m.ears[f.Kind].hear(f); e != api.OK {
			return e
		}
	}
}

func (m *Mux) own(id uint64) bool { return id&1 != m.side }

// wasOpened tells whether a stream was ever opened, by whoever opens those of its number; 0, which is all together, counts as opened.
func (m *Mux) wasOpened(id uint64) bool {
	if m.own(id) {
		return id <= m.opened
	}
	return id <= m.heard
}

func (m *Mux) hearOpen(f api.MuxFrame) api.Errno {
	if m.own(f.Stream) {
		return api.ErrCreditId
	}
	if e := m.book.Open(f.Stream); e != api.OK {
		return e
	}
	m.heard = f.Stream
	s := m.add(f.Stream, f.Class, f.Share)
	if m.away {
		m.turnAway(s)
	}
	return api.OK
}

// turnAway wants nothing of a stream that has just been opened, and gives nothing on it.
func (m *Mux) turnAway(s *stream) {
	defer m.settle(s)
	s.claimed = true
	m.deafen(s, m.code)
	m.giveUp(s, m.code)
}

// getter is a stream whose getting half is open. Of one that is forgotten it is not.
func (m *Mux) getter(id uint64) (*stream, api.Errno) {
	if !m.wasOpened(id) {
		return nil, api.ErrMuxStream
	}
	s := m.streams[id]
	if s == nil || s.getting != api.HalfOpen {
		return nil, api.ErrMuxShut
	}
	return s, api.OK
}

func (m *Mux) hearBytes(f api.MuxFrame) api.Errno {
	s, e := m.getter(f.Stream)
	if e != api.OK {
		return e
	}
	defer m.settle(s)
	due, e := m.book.Take(s.id, uint64(len(f.Data)))
	if e != api.OK {
		return e
	}
	if !s.deaf {
		s.came = append(s.came, f.Data...)
	}
	m.tell(due, e)
	return api.OK
}

func (m *Mux) hearEnd(f api.MuxFrame) api.Errno {
	s, e := m.getter(f.Stream)
	if e != api.OK {
		return e
	}
	defer m.settle(s)
	s.getting = api.HalfEnded
	return api.OK
}

func (m *Mux) hearReset(f api.MuxFrame) api.Errno {
	s, e := m.getter(f.Stream)
	if e != api.OK {
		return e
	}
	defer m.settle(s)
	s.note(f.N)
	s.getting = api.HalfReset
	m.drop(s)
	return api.OK
}

func (m *Mux) hearStop(f api.MuxFrame) api.Errno {
	if !m.wasOpened(f.Stream) {
		return api.ErrMuxStream
	}
	s := m.streams[f.Stream]
	if s == nil {
		return api.OK
	}
	defer m.settle(s)
	s.note(f.N)
	if s.sends() {
		s.unwanted = true
		m.giveUp(s, f.N)
	}
	return api.OK
}

// hearRoom raises a limit. Of a stream that is not open any more the book refuses it, and nothing comes of that.
func (m *Mux) hearRoom(f api.MuxFrame) api.Errno {
	if !m.wasOpened(f.Stream) {
		return api.ErrMuxStream
	}
	if s := m.streams[f.Stream]; s != nil {
		defer m.settle(s)
	}
	m.book.Raise(f.Stream, f.N)
	return api.OK
}

func (m *Mux) hearPing(f api.MuxFrame) api.Errno {
	m.queue(api.MuxFrame{Kind: api.MuxPong, N: f.N})
	return api.OK
}

func (m *Mux) hearPong(f api.MuxFrame) api.Errno {
	m.pongs = append(m.pongs, f.N)
	return api.OK
}

func (m *Mux) hearAway(f api.MuxFrame) api.Errno {
	if f.Stream > m.opened {
		return api.ErrMuxStream
	}
	m.gone = true
	return api.OK
}
