package gobackn

import "braid/api"

// Tick lets the clock go on by so many ms.
func (e *End) Tick(ms int) {
	if e.none() {
		return
	}
	e.own.GoOn(ms)
	if e.own.Err != api.OK || e.own.Done() {
		return
	}
	defer e.send()
	if e.underWay() > 0 && e.own.Clock-e.mark >= e.time() {
		e.fire()
	}
	if e.underWay() == 0 && (e.dead() || e.own.Clock-e.last >= e.own.While(e.time())) {
		e.probe()
	}
	if e.gone() {
		e.own.Break(api.ErrDead, onlyPath)
	}
}

// time is how long an answer may take: doubled with each strike.
func (e *End) time() uint64 { return min(uint64(api.FirstRto)<<e.strikes, api.MaxRto) }

// fire gives up all that is under way.
func (e *End) fire() {
	e.strikes++
	e.line.row, e.probing = 0, false
}

// probe asks whether the peer is there.
func (e *End) probe() {
	e.own.Post(api.Frame{Kind: api.KindProbe, Path: onlyPath})
	e.probing = true
	e.mark, e.last = e.own.Clock, e.own.Clock
}

func (e *End) dead() bool { return e.strikes > e.retries }

func (e *End) gone() bool { return e.strikes > 2*e.retries }
