package audit_test

import (
	"fmt"
	"testing"

	"braid/api"
)

// owing opens a desk on which a side has heard a numbered frame of its peer's on path 0, by which it owes an answer.
func owing(t *testing.T, sched, side, kind int) *desk {
	t.Helper()
	d := open(t, config(sched))
	d.name = fmt.Sprintf("sched %d, side %d, kind %d", sched, side, kind)
	d.hearsNumbered(side, kind)
	return d
}

// hearsNumbered lets a side hear a frame of a kind.
func (d *desk) hearsNumbered(side, kind int) {
	d.t.Helper()
	f := d.numberedOf(1-side, kind)
	d.fine(sent(1-side, f), heard(1-side, f))
}

// numberedOf is a frame of a kind that a side may send now, that breaks no rule.
func (d *desk) numberedOf(side, kind int) api.Frame {
	switch kind {
	case api.KindData:
		return d.piece(side, 0, 0, "a")
	case api.KindFin:
		return d.ending(side, 0, 1)
	}
	return d.asking(side, 0)
}

// eachOwing does something for each scheduler, side and kind of a frame that is owed an answer.
func eachOwing(t *testing.T, f func(d *desk, side, kind int)) {
	t.Helper()
	for _, sched := range all() {
		for side := range 2 {
			for _, kind := range numbered {
				d := owing(t, sched, side, kind)
				f(d, side, kind)
				d.closes()
			}
		}
	}
}

// reply is the ACK of what the side has heard first, and the DACK that tells nothing new. Of a single path's PROBE there is nothing to acknowledge: then the ACK breaks its rule.
func (d *desk) reply(side, kind int) (api.Event, []int) {
	if d.c.Sched == api.Single && kind == api.KindProbe {
		return sent(side, ack(0, 1)), []int{acks}
	}
	return sent(side, ack(0, 1)), nil
}

// P26.4: a DACK alone will do, or an ACK with a DACK right behind it; then nothing is owed.
func TestAnswered(t *testing.T) {
	eachOwing(t, func(d *desk, side, kind int) {
		d.fine(sent(side, d.told(side)))
		d.fine(sent(side, d.asking(side, 1)))
	})
	eachOwing(t, func(d *desk, side, kind int) {
		d.fine(lost(side, d.told(side)))
		d.fine(sent(side, d.told(side)))
		d.fine(lost(1-side, d.told(1-side)))
	})
	eachOwing(t, func(d *desk, side, kind int) {
		e, broken := d.reply(side, kind)
		e.What = api.EventLost
		d.shows(e, broken...)
		d.fine(lost(side, d.told(side)))
		d.fine(raw(api.EventDropped, 0, 1, "x"))
	})
	eachOwing(t, func(d *desk, side, kind int) { // a row that ends there shows nothing
		e, broken := d.reply(side, kind)
		d.shows(e, broken...)
	})
}

// P26.4: whatever else comes in the DACK's stead.
func TestSilent(t *testing.T) {
	for n := range 14 {
		for _, acked := range []bool{false, true} {
			eachOwing(t, func(d *desk, side, kind int) {
				if acked {
					e, broken := d.reply(side, kind)
					d.shows(e, broken...)
				}
				e, broken := d.other(n, side)
				d.showsSilent(side, e, broken...)
				d.fine(raw(api.EventDropped, 0, 1, "x"), raw(api.EventDoubled, 1, 0, "")) // nothing is owed any more
			})
		}
	}
}

// other is one of the events that are no answer of a side's, and what else they break.
func (d *desk) other(n, side int) (api.Event, []int) {
	peer := 1 - side
	var roles []int
	if d.c.Sched == api.Single {
		roles = []int{role}
	}
	switch n {
	case 0:
		return sent(side, d.asking(side, 0)), nil
	case 1:
		return sent(side, d.asking(side, 1)), nil
	case 2:
		return sent(side, on(1, d.told(side))), nil
	case 3:
		return sent(peer, d.told(peer)), nil
	case 4:
		return sent(side, prio()), roles
	case 5:
		return raw(api.EventSent, side, 0, string(coded(on(1, d.told(side))))), []int{form}
	case 6:
		return sent(side, rst(d.c.Keys[peer])), nil
	case 7:
		return sent(side, gone(0)), roles
	case 8:
		return raw(api.EventHeard, peer, 0, "x"), nil
	case 9:
		return event(api.EventDropped, side, d.told(side)), nil
	case 10:
		return event(api.EventDoubled, side, d.told(side)), nil
	case 11:
		return event(api.EventSpoilt, side, d.told(side)), nil
	case 12:
		return raw(api.EventLost, side, 0, ""), []int{form}
	}
	return sent(peer, d.asking(peer, 1)), nil
}

// P26.4: an ACK behind the ACK is no DACK; an ACK on another path or of the peer's is no answer.
func TestSilentAcks(t *testing.T) {
	eachOwing(t, func(d *desk, side, kind int) {
		for range 2 {
			e, broken := d.reply(side, kind)
			if len(d.book.l) == 2 {
				d.shows(e, broken...)
			} else {
				d.showsSilent(side, e, broken...)
			}
		}
		d.fine(sent(side, d.told(side)))
	})
	eachOwing(t, func(d *desk, side, kind int) {
		d.showsSilent(side, sent(side, on(1, ack(0, 1))), acks)
	})
	eachOwing(t, func(d *desk, side, kind int) {
		d.showsSilent(side, sent(1-side, ack(0, 1)), acks)
	})
	eachOwing(t, func(d *desk, side, kind int) { // a DACK that tells too much answers, and breaks its own rule
		d.shows(sent(side, dack(api.MaxOff, api.MaxEdge)), dacks)
		d.fine(sent(side, d.asking(side, 1)))
	})
}

// P26.4: what is heard in the answer's stead must be answered in its turn, by whoever hears it.
func TestSilentHearing(t *testing.T) {
	eachOwing(t, func(d *desk, side, kind int) {
		f := d.book.l[0].f
		for range 3 {
			d.showsSilent(side, heard(1-side, f))
		}
		e, broken := d.reply(side, kind)
		d.shows(e, broken...)
		d.showsSilent(side, heard(1-side, f))
		d.fine(sent(side, d.told(side)))
		d.fine(sent(side, d.asking(side, 0)))
	})
	for _, sched := range all() {
		for side := range 2 {
			d := open(t, config(sched))
			d.fine(sent(side, probe(0)), sent(1-side, probe(0)))
			d.fine(heard(1-side, probe(0)))
			d.showsSilent(side, heard(side, probe(0)))
			d.showsSilent(1-side, heard(1-side, probe(0)))
			d.showsSilent(side, sent(1-side, d.told(1-side)))
			d.fine(sent(1-side, d.told(1-side)))
			d.closes()
		}
	}
}

// P26.4: nothing is owed for what is no numbered frame, can't be read, or is heard on another path; nor for what is sent, dropped, doubled, spoilt.
func TestNothingOwed(t *testing.T) {
	each(t, all(), func(d *desk, side, path int) {
		peer := 1 - side
		x := d.asking(peer, path)
		d.fine(sent(peer, x))
		d.fine(event(api.EventDropped, peer, x), event(api.EventDoubled, peer, x), event(api.EventSpoilt, peer, x))
		d.fine(raw(api.EventHeard, peer, path, "x"), raw(api.EventHeard, peer, 1-path, string(coded(x))))
		d.fine(sent(peer, on(path, d.told(peer))), heard(peer, on(path, d.told(peer))))
		y := d.asking(peer, 1)
		d.fine(sent(peer, y))
		d.fine(heard(peer, y))
		d.fine(heard(peer, y))
		d.fine(sent(peer, d.asking(peer, path)))
		d.fine(sent(side, d.asking(side, path)))
	})
}

// P26.4: who has sent an RST owes nothing, nor who has heard one with its own token.
func TestDebtResets(t *testing.T) {
	eachOwing(t, func(d *desk, side, kind int) {
		f := d.book.l[0].f
		d.fine(sent(side, d.told(side)))
		d.shows(sent(side, on(1, rst(3))), token)
		d.fine(heard(1-side, f), heard(1-side, f))
		d.fine(sent(1-side, d.asking(1-side, 0)))
		x := d.numberedOf(side, api.KindProbe)
		d.shows(sent(side, x), after)
		d.fine(heard(side, x)) // the other side owes still
		d.showsSilent(1-side, sent(1-side, d.asking(1-side, 0)))
	})
	eachOwing(t, func(d *desk, side, kind int) {
		f := d.book.l[0].f
		wrong, right := on(1, rst(d.c.Keys[1-side])), on(1, rst(d.c.Keys[side]))
		d.fine(sent(side, d.told(side)))
		d.shows(sent(1-side, wrong), token)
		d.fine(heard(1-side, wrong))
		d.fine(heard(1-side, f))
		d.showsSilent(side, sent(1-side, right), after)
		d.fine(heard(1-side, f))
		d.showsSilent(side, event(api.EventDropped, 1-side, right))
		d.fine(heard(1-side, right))
		d.fine(heard(1-side, f), heard(1-side, f))
		d.shows(sent(side, d.asking(side, 0)), after)
	})
}

// P26.4: when somebody has sent that path 0 is left nobody owes anything on it.
func TestDebtGone(t *testing.T) {
	for who := range 2 {
		eachOwing(t, func(d *desk, side, kind int) {
			var roles []int
			if d.c.Sched == api.Single {
				roles = []int{role}
			}
			f := d.book.l[0].f
			d.fine(sent(side, d.told(side)))
			d.shows(sent(who, on(1, gone(1))), roles...)
			d.shows(raw(api.EventSent, who, 0, string(coded(on(1, gone(0))))), form)
			d.fine(heard(1-side, f))
			d.showsSilent(side, event(api.EventDropped, who, on(1, gone(0))))
			d.shows(lost(who, on(1, gone(0))), roles...)
			d.fine(heard(1-side, f), heard(1-side, f))
			d.shows(sent(who, on(1, gone(1))), roles...) // and it stays so
			d.fine(heard(1-side, f), heard(1-side, f))
			x := d.asking(side, 0)
			d.fine(sent(side, x))
			d.fine(heard(side, x), heard(side, x))
		})
	}
}
