package gobackn

import (
	"braid/api"
	"braid/wire"
)

// Receive takes the bytes of a frame that came on a path.
func (e *End) Receive(path int, b []byte) {
	f, ok := e.heard(path, b)
	if !ok {
		return
	}
	if f.Kind == api.KindRst {
		e.own.HearReset(f.Token)
		return
	}
	defer e.send()
	e.strikes, e.probing = 0, false
	switch f.Kind {
	case api.KindData, api.KindFin:
		e.hearChunk(f)
	case api.KindProbe:
		e.ack()
		e.own.Dack(onlyPath)
	case api.KindAck:
		e.hearAck(f.Ranges)
	case api.KindDack:
		e.hearDack(f.Off, f.Edge)
	}
}

// heard is the frame that came, if it is one that this side hears.
func (e *End) heard(path int, b []byte) (api.Frame, bool) {
	if e.none() || e.own.Err != api.OK || path != onlyPath {
		return api.Frame{}, false
	}
	f, bad := wire.Decode(b)
	return f, bad == api.OK && f.Path == onlyPath
}

// hearChunk takes a chunk of the peer's, or its end, if its turn has come.
func (e *End) hearChunk(f api.Frame) {
	if f.Num == e.expected && e.take(f) == api.OK {
		e.expected++
	}
	if f.Num < e.expected {
		e.ack()
	}
	e.own.Dack(onlyPath)
}

// take gives a chunk to the receiving buffer.
func (e *End) take(f api.Frame) api.Errno {
	if f.Kind == api.KindFin {
		return e.own.Recv.Fin(f.Off)
	}
	_, bad := e.own.Recv.Take(f.Off, f.Data)
	return bad
}

// ack tells how many chunks were taken. Of none there is no ACK: it could bear no range.
func (e *End) ack() {
	if e.expected > 0 {
		e.own.Post(api.Frame{Kind: api.KindAck, Path: onlyPath, Ranges: []api.Range{{Hi: e.expected}}})
	}
}

// hearAck settles the chunks that the peer says to have taken, if it can have taken so many.
func (e *End) hearAck(told []api.Range) {
	if len(told) != 1 || told[0].Lo != 0 || told[0].Hi > e.line.ever() {
		return
	}
	for e.line.first < told[0].Hi {
		e.settle()
	}
}

// hearDack settles the chunks all of which the peer has, and learns up to where it takes bytes.
func (e *End) hearDack(v, edge uint64) {
	e.own.Send.Ack(v, edge)
	for len(e.line.chunks) > 0 && behind(e.line.chunks[0]) <= e.own.Send.Acked() {
		e.settle()
	}
}

// settle takes away the first chunk that has gone out. What is under way behind it has the whole time from now on; if nothing is, the mark counts for nothing.
func (e *End) settle() {
	e.line.settle()
	e.mark = e.own.Clock
}
