package muxwire

import "braid/api"

// Reader reads frames out of bytes that come in any pieces.
type Reader struct {
	scan  *scan
	bytes []byte // what came; some at their front may have been given
	left  int    // how many came and were not given: so many at the end of bytes
	at    uint64
	fault api.Errno
}

// NewReader is one to which nothing has come.
func NewReader() *Reader { return &Reader{scan: newScan()} }

// Write takes bytes.
func (r *Reader) Write(b []byte) {
	if r.fault == api.OK {
		r.bytes = append(r.bytes, b...)
		r.left += len(b)
	}
}

// Next is the next frame, if all of it has come.
func (r *Reader) Next() (api.MuxFrame, bool, api.Errno) {
	if r.fault != api.OK {
		return api.MuxFrame{}, false, r.fault
	}
	f, n, e := r.scan.take(r.bytes[len(r.bytes)-r.left:])
	switch e {
	case api.OK:
		r.give(n)
		return f, true, api.OK
	case api.ErrMuxShort:
		return api.MuxFrame{}, false, api.OK
	}
	r.fault = e
	r.bytes = nil // nobody reads them any more
	return api.MuxFrame{}, false, e
}

// give counts the bytes of a frame as given. What is left is moved only when that is not more than what lies ahead of it: so all moves together take no longer than the bytes took to come, however small the frames are.
func (r *Reader) give(n int) {
	r.at += uint64(n)
	r.left -= n
	if given := len(r.bytes) - r.left; given >= r.left {
		copy(r.bytes, r.bytes[given:])
		r.bytes = r.bytes[:r.left]
	}
}

// At is how many bytes the frames had that were given.
func (r *Reader) At() uint64 { return r.at }

// Left is how many bytes have come and were not given.
func (r *Reader) Left() int { return r.left }
