package mux

import "braid/api"

// stream is one that is there.
type stream struct {
	id       uint64
	class    int
	share    int
	sending  int    // how its halves are
	getting  int    //
	waits    []byte // accepted, and not gone out
	known    int    // how many of these the turns know
	came     []byte // and was not read
	claimed  bool   // Accept has given it, or never will
	unwanted bool   // the sending half was given up because of a STOP
	deaf     bool
	told     bool // Read has answered its end, or that the getting half was given up
	coded    bool // a RESET or a STOP was heard
	code     uint64
}

// sends tells whether bytes may still go out on it.
func (s *stream) sends() bool { return s.sending == api.HalfOpen || s.sending == api.HalfShut }

func (s *stream) over() bool { return !s.sends() && s.getting != api.HalfOpen }

// done tells whether nobody will ask for it any more.
func (s *stream) done() bool { return s.over() && s.claimed && (s.deaf || s.told) }

// barred is why the sending half takes no bytes.
func (s *stream) barred() api.Errno {
	switch {
	case s.unwanted:
		return api.ErrMuxStopped
	case s.sending != api.HalfOpen:
		return api.ErrMuxShut
	}
	return api.OK
}

// mute is why the getting half gives none.
func (s *stream) mute() api.Errno {
	switch {
	case s.deaf:
		return api.ErrMuxDeaf
	case s.getting == api.HalfReset:
		return api.ErrMuxReset
	}
	return api.OK
}

// read takes up to n of the bytes that have come.
func (s *stream) read(n int) []byte {
	n = max(0, min(n, len(s.came)))
	b := append([]byte(nil), s.came[:n]...)
	s.came = rest(s.came, n)
	return b
}

// ended tells whether the end has come, and nothing is left to be read ahead of it.
func (s *stream) ended() bool { return s.getting == api.HalfEnded && len(s.came) == 0 }

// takeOut takes the first n bytes that wait, of which the turns knew.
func (s *stream) takeOut(n int) []byte {
	b := s.waits[:n]
	s.waits = rest(s.waits, n)
	s.known -= n
	return b
}

// rest is b behind its first n bytes; nothing of its memory is kept for the sake of none.
func rest(b []byte, n int) []byte {
	if n == len(b) {
		return nil
	}
	return b[n:]
}

// note keeps the first code that is heard, be it 0.
func (s *stream) note(code uint64) {
	if !s.coded {
		s.coded, s.code = true, code
	}
}

func (s *stream) view() api.MuxView {
	return api.MuxView{
		Stream: s.id, Class: s.class, Share: s.share,
		Sending: s.sending, Getting: s.getting,
		Waiting: len(s.waits), Ready: len(s.came),
		Deaf: s.deaf, Code: s.code,
	}
}
