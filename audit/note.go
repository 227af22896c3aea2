package audit

import "braid/api"

// note counts an event, and keeps what those behind it are held against.
func (a *Auditor) note(l look) {
	l.count()
	switch {
	case l.sending() && l.read:
		a.sent(l)
	case l.hearing() && l.read && !l.foreign():
		a.heard(l)
	}
	a.debt = a.owed(l)
	a.events++
}

func (l look) count() {
	p := l.way()
	switch l.What {
	case api.EventSent:
		p.Sent++
	case api.EventLost:
		p.Lost++
	case api.EventHeard:
		p.Heard++
		if !l.read {
			p.Unread++
		}
	case api.EventDropped:
		p.Dropped++
	case api.EventDoubled:
		p.Doubled++
	case api.EventSpoilt:
		p.Spoilt++
	}
}

// sent keeps what a side has sent.
func (a *Auditor) sent(l look) {
	own, p := l.own, l.way()
	own.frames[string(l.Bytes)] = struct{}{}
	if l.numbered() {
		p.numbered++
		if !a.single {
			p.send(l.f.Num, l.Clock)
		}
	}
	switch l.f.Kind {
	case api.KindData:
		l.sentData()
	case api.KindFin:
		own.places[l.chunk()] = own.placeOf(l.chunk())
		own.lowEnd, own.highEnd = min(own.lowEnd, l.f.Off), max(own.highEnd, l.f.Off)
	case api.KindDack:
		own.toldOff, own.toldEdge = max(own.toldOff, l.f.Off), max(own.toldEdge, l.f.Edge)
	case api.KindRst:
		own.reset, own.resetPlace, own.resetPath = true, l.place, l.Path
	case api.KindGone:
		a.left = a.left || l.f.Which == 0
	}
}

func (l look) sentData() {
	own, p := l.own, l.way()
	p.Data++
	p.Bytes += len(l.f.Data)
	if own.hasSent(l.chunk()) {
		p.Again++
	} else {
		own.places[l.chunk()] = own.placeOf(l.chunk())
		own.chunks++
	}
	own.said.say(l.f.Off, l.f.Data)
	own.reach = max(own.reach, l.span().Hi)
}

// heard keeps what a side has heard of its peer.
func (a *Auditor) heard(l look) {
	who, p := l.peer, l.way()
	if l.numbered() {
		p.hear(l.f.Num)
		if !a.single || !l.is(api.KindProbe) {
			p.proper.Add(one(l.f.Num))
		}
	}
	switch l.f.Kind {
	case api.KindData:
		who.came.Add(l.span())
	case api.KindFin:
		who.ends.Add(one(l.f.Off))
	case api.KindAck:
		if !a.single {
			who.paths[l.Path].acknowledged(l.f.Ranges, l.Clock)
		}
	case api.KindDack:
		who.edge = max(who.edge, l.f.Edge)
	case api.KindRst:
		who.wasReset = who.wasReset || l.f.Token == who.token
	}
}
