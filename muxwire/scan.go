package muxwire

import "braid/api"

// How a number is laid down.
const (
	bitsEach   = 7
	ownBits    = 1<<bitsEach - 1 // those of a byte that are the number's
	moreFollow = 1 << bitsEach   // the one that says that another byte follows
	mostBytes  = 9               // of a number
)

// scan reads frames, each at the front of bytes, by a row of small readers.
type scan struct {
	rows  [numKinds][]field // the fields of each kind, in their order
	left  []byte            // what was not read yet
	frame api.MuxFrame      // what was read
}

// field is one field of a kind: what reads it, and whether what was read is within the bounds that it has there.
type field struct {
	read func() api.Errno
	fits func(api.MuxFrame) bool
}

func newScan() *scan {
	s := &scan{}
	s.rows = [numKinds][]field{
		kindOpen:  {{s.stream, named}, {s.class, classed}, {s.share, shared}},
		kindBytes: {{s.stream, named}, {s.data, filled}},
		kindRoom:  {{s.stream, free}, {s.n, free}},
		kindEnd:   {{s.stream, named}},
		kindStop:  {{s.stream, named}, {s.n, free}},
		kindReset: {{s.stream, named}, {s.n, free}},
		kindPing:  {{s.n, free}},
		kindPong:  {{s.n, free}},
		kindAway:  {{s.stream, free}, {s.n, free}},
	}
	return s
}

// free is of a field without bounds, but for those that all numbers have.
func free(api.MuxFrame) bool { return true }

// take reads the frame at the front of b, and tells how many bytes it has.
func (s *scan) take(b []byte) (api.MuxFrame, int, api.Errno) {
	s.left = b
	defer s.forget()
	if e := s.all(); e != api.OK {
		return api.MuxFrame{}, 0, e
	}
	return s.frame, len(b) - len(s.left), api.OK
}

// forget lets go of the bytes, which are somebody else's, and of the frame, which was handed out.
func (s *scan) forget() { s.left, s.frame = nil, api.MuxFrame{} }

// all reads the kind, and then its fields up to the first that is wrong.
func (s *scan) all() api.Errno {
	if e := s.kind(); e != api.OK {
		return e
	}
	for _, x := range s.rows[s.frame.Kind] {
		if e := x.read(); e != api.OK {
			return e
		}
		if !x.fits(s.frame) {
			return api.ErrMuxField
		}
	}
	return api.OK
}

func (s *scan) kind() api.Errno {
	x, e := s.one()
	if e == api.OK && !known(int(x)) {
		return api.ErrMuxKind
	}
	s.frame.Kind = int(x)
	return e
}

func (s *scan) stream() (e api.Errno) {
	s.frame.Stream, e = s.number()
	return e
}

func (s *scan) n() (e api.Errno) {
	s.frame.N, e = s.number()
	return e
}

func (s *scan) class() api.Errno {
	x, e := s.one()
	s.frame.Class = int(x)
	return e
}

func (s *scan) share() api.Errno {
	x, e := s.one()
	s.frame.Share = int(x)
	return e
}

// data reads a length and so many bytes. A length of 0 leaves no bytes, by which it is refused: see filled.
func (s *scan) data() api.Errno {
	n, e := s.number()
	switch {
	case e != api.OK:
		return e
	case n > api.MaxMuxPiece:
		return api.ErrMuxLong
	case n > uint64(len(s.left)):
		return api.ErrMuxShort
	}
	s.frame.Data = make([]byte, n)
	copy(s.frame.Data, s.left)
	s.left = s.left[n:]
	return api.OK
}

// number reads a number. None has more bytes than mostBytes: one that would go on behind them is refused there, whatever follows.
func (s *scan) number() (uint64, api.Errno) {
	n := uint64(0)
	for i := range mostBytes {
		x, e := s.one()
		if e != api.OK {
			return 0, e
		}
		n |= uint64(x&ownBits) << (bitsEach * i)
		if x&moreFollow != 0 {
			continue
		}
		if x == 0 && i > 0 || n > api.MaxMuxNumber {
			return 0, api.ErrMuxNumber
		}
		return n, api.OK
	}
	return 0, api.ErrMuxNumber
}

// one reads a byte.
func (s *scan) one() (byte, api.Errno) {
	if len(s.left) == 0 {
		return 0, api.ErrMuxShort
	}
	x := s.left[0]
	s.left = s.left[1:]
	return x, api.OK
}
