package audit

import (
	"slices"

	"braid/api"
	"braid/wire"
)

// look is an event as the rules see it.
type look struct {
	api.Event
	place int
	read  bool      // its frame can be read
	f     api.Frame // zero, if it can't
	own   *side     // who sent the frame
	peer  *side
}

func (a *Auditor) look(e api.Event) look {
	l := look{Event: e, place: a.events, own: &a.sides[e.Side], peer: &a.sides[1-e.Side]}
	if f, bad := wire.Decode(e.Bytes); bad == api.OK && f.Path == e.Path {
		l.read, l.f = true, f
	}
	return l
}

func (l look) sending() bool { return l.What == api.EventSent || l.What == api.EventLost }

func (l look) hearing() bool { return l.What == api.EventHeard }

// is tells whether its frame can be read and is of one of these kinds.
func (l look) is(kinds ...int) bool { return slices.Contains(kinds, l.f.Kind) }

func (l look) numbered() bool { return l.is(api.KindData, api.KindFin, api.KindProbe) }

// sends tells whether a frame of one of these kinds is sent, that can be read.
func (l look) sends(kinds ...int) bool { return l.sending() && l.is(kinds...) }

// foreign tells whether a frame is heard that can be read and was not sent.
func (l look) foreign() bool {
	if !l.hearing() || !l.read {
		return false
	}
	_, sent := l.own.frames[string(l.Bytes)]
	return !sent
}

// way is what there is of the path on which the frame goes.
func (l look) way() *path { return &l.own.paths[l.Path] }

// span is the offsets of a DATA.
func (l look) span() api.Range {
	return api.Range{Lo: l.f.Off, Hi: l.f.Off + uint64(len(l.f.Data))}
}

// chunk is the chunk that a DATA or FIN bears.
func (l look) chunk() chunk {
	return chunk{kind: l.f.Kind, off: l.f.Off, size: len(l.f.Data)}
}
