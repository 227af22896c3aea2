package cong

import "braid/api"

// lane is a path: its window, and what its steps hang on.
type lane struct {
	api.Window
	taken bool
	time  int // there and back, in ms; 0 is not known, as no time that was told is less than 1
}

// counts: the path has a part in the coupled increase.
func (l lane) counts() bool { return l.taken && l.time > 0 }

// The kinds of losses.
const (
	lossOfSome = iota
	lossOfAll
)

// losses is what each kind of loss does to a window.
func losses() []func(api.Window) api.Window {
	return []func(api.Window) api.Window{
		lossOfSome: func(w api.Window) api.Window { return api.Window{Cwnd: half(w), Thresh: half(w)} },
		lossOfAll:  func(w api.Window) api.Window { return api.Window{Cwnd: frame, Thresh: half(w)} },
	}
}

// half is where slow start ends from a loss on.
func half(w api.Window) int { return max(w.Cwnd/2, narrow) }

// lose lets a loss of that kind befall a path.
func (g *Group) lose(path, kind int) {
	if l := g.lane(path); l != nil {
		l.Window = losses()[kind](l.Window)
	}
}
