package harness

import (
	"slices"

	"braid/api"
	"braid/wire"
)

// call lets a side do something, and puts what it sends at that into the bags.
func (w *World) call(from int, s api.Step) answer {
	a := w.sides[from].ask(s)
	if s.Kind == api.StepTick {
		w.clocks[from] = a.stat.Clock
	}
	for _, o := range a.out {
		w.put(from, o)
	}
	return a
}

func (w *World) put(from int, o api.Out) {
	what := api.EventSent
	if lies, _ := w.net.Put(o.Path, from, o.Bytes); !lies {
		what = api.EventLost
	}
	w.note(what, from, o.Path, w.clocks[from], o.Bytes)
}

// note keeps the bytes: they are nobody else's to write to.
func (w *World) note(what, from, path int, clock uint64, b []byte) {
	if w.unread {
		return
	}
	w.log = append(w.log, api.Event{What: what, Side: from, Path: path, Clock: clock, Bytes: b})
}

// entry is a call of the application's with its answer.
func entry(from int, s api.Step, a answer) api.Entry {
	e := api.Entry{Side: from, Op: s.Kind, Err: a.err}
	switch s.Kind {
	case api.StepWrite:
		e.Data, e.N = slices.Clone(s.Data), a.n
	case api.StepRead:
		e.Data, e.N, e.End = a.data, s.N, a.end
	}
	return e
}

// lying is how many frames of a side lie in a path's bag; 0 too, if there is no such path.
func (w *World) lying(from, path int) int {
	v, _ := w.net.Look(path)
	return v.Lying[from]
}

// round is a number counted round: the least from 0 on that differs from n by a multiple of count, which is above 0.
func round(n, count int) int {
	return (n%count + count) % count
}

// meet does a step that has to do with one frame, if there is one.
func (w *World) meet(from int, s api.Step) {
	count := w.lying(from, s.Path)
	if count == 0 {
		return
	}
	k := round(s.N, count)
	switch s.Kind {
	case api.StepDeliver:
		w.deliver(from, s.Path, k)
	case api.StepDrop:
		w.drop(from, s.Path, k)
	case api.StepDouble:
		w.double(from, s.Path, k)
	case api.StepSpoil:
		w.spoil(from, s.Path, k, s.At, s.Mask)
	}
}

// deliver lets the peer hear a frame, unless the path is down.
func (w *World) deliver(from, path, k int) {
	p, bad := w.net.Take(path, from, k)
	if bad != api.OK {
		return
	}
	if p.Spoilt && readable(p.Bytes) {
		w.forged++
	}
	peer := 1 - from
	w.note(api.EventHeard, from, path, w.clocks[peer], p.Bytes)
	w.call(peer, api.Step{Kind: api.StepDeliver, Path: path, Data: p.Bytes})
}

func readable(b []byte) bool {
	_, bad := wire.Decode(b)
	return bad == api.OK
}

func (w *World) drop(from, path, k int) {
	p, _ := w.net.Peek(path, from, k)
	w.net.Drop(path, from, k)
	w.note(api.EventDropped, from, path, w.clocks[from], p.Bytes)
}

// double lays a second frame down, unless the path is down or the bag is full.
func (w *World) double(from, path, k int) {
	if lies, _ := w.net.Double(path, from, k); !lies {
		return
	}
	p, _ := w.net.Peek(path, from, k)
	w.note(api.EventDoubled, from, path, w.clocks[from], p.Bytes)
}

func (w *World) spoil(from, path, k, at int, mask byte) {
	p, _ := w.net.Peek(path, from, k)
	w.net.Spoil(path, from, k, round(at, len(p.Bytes)), mask)
	p, _ = w.net.Peek(path, from, k)
	w.note(api.EventSpoilt, from, path, w.clocks[from], p.Bytes)
}

// flush delivers what lies on a path, and what comes of it there, until nothing lies there any more.
func (w *World) flush(path int) {
	if v, _ := w.net.Look(path); !v.Up {
		return
	}
	for w.lying(api.SideA, path)+w.lying(api.SideB, path) > 0 {
		for from := range w.sides {
			for range w.lying(from, path) {
				w.deliver(from, path, 0)
			}
		}
	}
}
