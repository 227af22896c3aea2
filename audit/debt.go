package audit

import "braid/api"

// What a side may owe.
const (
	nothing = iota
	answer  // a DACK, or an ACK with a DACK right behind it
	rest    // the DACK right behind an ACK
)

// debt is what a side owes on path 0. Never do both owe at one time: what a side owes is over at the next event, and one event is heard by one side alone.
type debt struct {
	side int
	owes int
}

// fits tells whether an event is what must come now.
func (d debt) fits(l look) bool {
	if l.Side != d.side || l.Path != 0 {
		return false
	}
	return l.sends(api.KindDack) || d.owes == answer && l.sends(api.KindAck)
}

// asks tells whether an event must be answered by the side that hears it: not by one that has ended, nor when path 0 is left, or on its way to be.
func (a *Auditor) asks(l look) bool {
	return l.hearing() && l.numbered() && l.Path == 0 && !l.peer.reset && !l.peer.wasReset && !a.left
}

// owed is what is owed behind an event.
func (a *Auditor) owed(l look) debt {
	switch {
	case a.asks(l):
		return debt{side: 1 - l.Side, owes: answer}
	case a.debt.fits(l) && l.is(api.KindAck):
		return debt{side: l.Side, owes: rest}
	}
	return debt{}
}
