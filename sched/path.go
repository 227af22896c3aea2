package sched

import (
	"slices"

	"braid/api"
)

// test tells of a path whether it is one of the candidates.
type test func(api.PathView) bool

func hasRoom(p api.PathView) bool {
	return p.Usable && p.Window >= 1 && p.Inflight < p.Window
}

// onCall is the test for the paths that may be taken: backups only where nothing else is usable.
func onCall(paths []api.PathView) test {
	others := slices.ContainsFunc(paths, func(p api.PathView) bool { return p.Usable && !p.Backup })
	return func(p api.PathView) bool { return p.Usable && !(p.Backup && others) }
}

// ready is the test for the paths on call that have room.
func ready(paths []api.PathView) test {
	called := onCall(paths)
	return func(p api.PathView) bool { return called(p) && hasRoom(p) }
}

// timeOf is a path's time there and back in ms: never 0, as others are divided by it.
func timeOf(p api.PathView) uint64 {
	if !p.Known {
		return api.FirstRto
	}
	return min(max(p.Srtt, 1), api.MaxRto)
}

// quickest is the number of the candidate with the least time; -1, if there is none.
func quickest(paths []api.PathView, may test) int { return least(paths, may, timeOf) }

// least is the number of the candidate with the least measure, of equal ones the first; -1, if there is none.
func least(paths []api.PathView, may test, measure func(api.PathView) uint64) int {
	best := -1
	for i, p := range paths {
		if may(p) && (best < 0 || measure(p) < measure(paths[best])) {
			best = i
		}
	}
	return best
}

// send is the decision to send a chunk on a path; none, if the path is -1.
func send(path int, c api.Chunk) (api.Pick, bool) {
	if path < 0 {
		return api.Pick{}, false
	}
	return api.Pick{Path: path, Off: c.Off, Len: c.Len}, true
}
