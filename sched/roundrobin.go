package sched

import (
	"slices"

	"braid/api"
)

// roundRobin gives the paths their turns, a path as many chunks as its weight.
type roundRobin struct {
	listless
	weights []int
	turn    int // whose turn it is
	left    int // so many chunks that path has left
}

func newRoundRobin(weights []int) *roundRobin {
	r := &roundRobin{weights: slices.Clone(weights)}
	r.pass(0)
	return r
}

func (r *roundRobin) Next(v api.View) (api.Pick, bool) {
	may := ready(v.Paths)
	// Without a path that may be taken the turn would go round for ever.
	if !v.Has || !slices.ContainsFunc(v.Paths, may) {
		return api.Pick{}, false
	}
	for !r.stays(v.Paths, may) {
		r.pass(behind(r.turn, len(v.Paths)))
	}
	r.left--
	return send(r.turn, v.Want)
}

// stays tells whether the path whose turn it is takes the next chunk.
func (r *roundRobin) stays(paths []api.PathView, may test) bool {
	return r.turn < len(paths) && r.left > 0 && may(paths[r.turn])
}

// pass gives a path the turn.
func (r *roundRobin) pass(path int) {
	r.turn, r.left = path, r.weight(path)
}

func (r *roundRobin) weight(path int) int {
	if path >= len(r.weights) {
		return 1
	}
	return min(max(r.weights[path], 1), api.MaxWeight)
}

// behind is the number behind a turn's, of so many paths; there may be fewer of them than when it came to its turn.
func behind(turn, paths int) int {
	if turn+1 >= paths {
		return 0
	}
	return turn + 1
}
