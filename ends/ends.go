// Package ends is what the two kinds of ends, those of layers 12 and 13, have in common: see shared/DOC.md, 'The two ends'.
package ends

import (
	"braid/api"
	"braid/reasm"
	"braid/sendbuf"
	"braid/sums"
	"braid/wire"
)

// Owner has a side's two buffers, its error, its clock, and the frames that are to be sent.
type Owner struct {
	Send  *sendbuf.Buffer
	Recv  *reasm.Buffer
	Err   api.Errno
	Clock uint64
	token uint32 // an RST that bears it is meant for this side
	peer  uint32 // the one that an RST of this side bears
	out   []api.Out
}

// New is that of a side which has done nothing yet; nil and an error, if the configuration may not be.
func New(c api.Config, side int) (*Owner, api.Errno) {
	if bad := Fit(c); bad != api.OK {
		return nil, bad
	}
	own := side & 1
	peer := 1 - own
	// What fits the bounds of a configuration fits those of a receiving buffer.
	recv, _ := reasm.New(c.Base[peer], c.RecvBuf, c.Gaps)
	return &Owner{
		// RecvBuf is one number for both sides: so this edge is the peer's first one.
		Send:  sendbuf.New(c.Base[own], c.SendBuf, c.Mss, c.Base[own]+uint64(c.RecvBuf)),
		Recv:  recv,
		token: sums.Token(c.Keys[own]),
		peer:  sums.Token(c.Keys[peer]),
	}, api.OK
}

// Write accepts bytes: how many.
func (o *Owner) Write(p []byte) (int, api.Errno) {
	switch {
	case o.Err != api.OK:
		return 0, o.Err
	case o.Send.Closed():
		return 0, api.ErrClosed
	}
	return o.Send.Write(p), api.OK
}

// Read takes up to n bytes: these, and whether the stream has ended. The peer hears on a path that there is room again.
func (o *Owner) Read(n, path int) ([]byte, bool, api.Errno) {
	if o.Err != api.OK {
		return nil, false, o.Err
	}
	b, end, bad := o.Recv.Read(max(n, 0))
	if len(b) > 0 {
		o.Dack(path)
	}
	return b, end, bad
}

// Close ends this side's stream.
func (o *Owner) Close() api.Errno {
	switch {
	case o.Err != api.OK:
		return o.Err
	case !o.Send.Close():
		return api.ErrClosed
	}
	return api.OK
}

// Abort ends the connection, and tells the peer on these paths.
func (o *Owner) Abort(paths ...int) api.Errno {
	if o.Err != api.OK {
		return o.Err
	}
	o.Break(api.ErrAborted, paths...)
	return api.OK
}

// Break ends the connection by an error, and tells the peer on these paths.
func (o *Owner) Break(why api.Errno, paths ...int) {
	o.Err = why
	for _, p := range paths {
		o.Post(api.Frame{Kind: api.KindRst, Path: p, Token: o.peer})
	}
}

// HearReset takes the token of an RST that came.
func (o *Owner) HearReset(token uint32) {
	if token == o.token {
		o.Err = api.ErrReset
	}
}

// Dack tells the peer on a path up to where all has come, and up to where bytes are taken.
func (o *Owner) Dack(path int) {
	o.Post(api.Frame{Kind: api.KindDack, Path: path, Off: o.Recv.Next(), Edge: o.Recv.Edge()})
}

// Post lets a frame go out.
func (o *Owner) Post(f api.Frame) {
	// A side makes no frame that does not fit: its numbers and offsets stay within their bounds.
	b, _ := wire.Encode(f)
	o.out = append(o.out, api.Out{Path: f.Path, Bytes: b})
}

// Out takes the frames that are to be sent, in their order.
func (o *Owner) Out() []api.Out {
	l := o.out
	o.out = nil
	return l
}

// GoOn lets the clock go on by so many ms.
func (o *Owner) GoOn(ms int) {
	o.Clock = min(o.Clock+uint64(min(max(ms, 0), api.MaxTick)), api.MaxClock)
}
