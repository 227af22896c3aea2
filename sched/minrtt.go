package sched

import "braid/api"

// minRtt takes the quickest path.
type minRtt struct{ listless }

func (minRtt) Next(v api.View) (api.Pick, bool) {
	if !v.Has {
		return api.Pick{}, false
	}
	return send(quickest(v.Paths, ready(v.Paths)), v.Want)
}
