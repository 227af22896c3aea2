package sched

import (
	"slices"

	"braid/api"
)

// replay says what it was told to say.
type replay struct {
	list []api.Pick // what was not said yet
}

func newReplay(list []api.Pick) *replay { return &replay{list: slices.Clone(list)} }

func (r *replay) Left() int { return len(r.list) }

func (r *replay) Next(api.View) (api.Pick, bool) {
	if len(r.list) == 0 {
		return api.Pick{}, false
	}
	p := r.list[0]
	r.list = r.list[1:]
	// It stands for a call without a decision.
	if p.Len < 0 {
		return api.Pick{}, false
	}
	return p, true
}
