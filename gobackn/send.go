package gobackn

import "braid/api"

// send lets all chunks go out that may.
func (e *End) send() {
	if e.own.Err != api.OK || e.dead() {
		return
	}
	for e.line.row < api.Backn {
		c, ok := e.next()
		if !ok {
			return
		}
		e.depart(c)
	}
}

// next is the chunk behind those that are under way, if it is there and may go out.
func (e *End) next() (api.Chunk, bool) {
	// One that has gone out may do so again: the edge never falls.
	if l := &e.line; l.row < len(l.chunks) {
		return l.chunks[l.row], true
	}
	// Chunks go out in their order: so the first that has never gone out begins where those end that have.
	off := e.own.Send.High()
	if !e.own.Send.Sent(onlyPath, off) {
		return api.Chunk{}, false
	}
	n := len(e.own.Send.Bytes(off))
	c := api.Chunk{Off: off, Len: n, Fin: n == 0}
	e.line.chunks = append(e.line.chunks, c)
	return c, true
}

// depart lets the chunk behind those that are under way go out.
func (e *End) depart(c api.Chunk) {
	if e.underWay() == 0 {
		e.mark = e.own.Clock
	}
	e.last = e.own.Clock
	f := api.Frame{
		Kind: api.KindData,
		Path: onlyPath,
		Num:  e.line.first + uint64(e.line.row),
		Off:  c.Off,
		Data: e.own.Send.Bytes(c.Off),
	}
	if c.Fin {
		f.Kind = api.KindFin
	}
	e.own.Post(f)
	e.line.row++
}

// underWay is how many frames are: chunks, and the PROBE.
func (e *End) underWay() int {
	if e.probing {
		return e.line.row + 1
	}
	return e.line.row
}
