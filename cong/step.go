package cong

import (
	"iter"

	"braid/api"
)

// What the reckoning is scaled by, so that little is lost by rounding.
const (
	unit  = frame * frame // a path alone gains unit / Cwnd a frame: a frame a round trip
	fine  = 16            // windows weighed by their times
	whole = 512           // the alpha that stands for 1
)

// grow is what one acknowledged frame does to a path's window.
func (g *Group) grow(l *lane) {
	if l.Cwnd < l.Thresh {
		l.Cwnd = min(l.Cwnd+frame, l.Thresh)
		return
	}
	l.Cwnd = min(l.Cwnd+g.step(l), full)
}

// step is what a window gains that is no more in slow start.
func (g *Group) step(l *lane) int {
	own := unit / l.Cwnd
	if !l.counts() {
		return own
	}
	return max(min(own, g.coupled()), 1)
}

// counting goes over the paths that count.
func (g *Group) counting() iter.Seq[lane] {
	return func(yield func(lane) bool) {
		for _, l := range g.lanes[:g.paths] {
			if l.counts() && !yield(l) {
				return
			}
		}
	}
}

// coupled is the step that all paths that count have in common. It is asked for only where one counts, and the quickest one weighs its whole window: so nothing is divided by 0.
func (g *Group) coupled() int {
	least := g.leastTime()
	var sum, best, total int
	for l := range g.counting() {
		weighed := l.Cwnd * fine * least
		sum += weighed / l.time
		best = max(best, weighed*least/(l.time*l.time))
		total += l.Cwnd
	}
	q := best * unit / sum
	p := total * fine * whole / sum
	alpha := q * p / unit
	return alpha * (unit / whole) / total
}

// leastTime is the quickest path's time, of those that count.
func (g *Group) leastTime() int {
	least := api.MaxRto
	for l := range g.counting() {
		least = min(least, l.time)
	}
	return least
}
