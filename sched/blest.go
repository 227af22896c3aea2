package sched

import "braid/api"

// blest takes a slower path only where that does not hold up the quickest one.
type blest struct{ listless }

func (blest) Next(v api.View) (api.Pick, bool) {
	if !v.Has {
		return api.Pick{}, false
	}
	called := onCall(v.Paths)
	fast := quickest(v.Paths, func(p api.PathView) bool { return called(p) && p.Window >= 1 })
	if fast < 0 || hasRoom(v.Paths[fast]) {
		return send(fast, v.Want)
	}
	slow := quickest(v.Paths, ready(v.Paths))
	if slow < 0 || holdsUp(v, v.Paths[fast], v.Paths[slow]) {
		return api.Pick{}, false
	}
	return send(slow, v.Want)
}

// holdsUp tells whether a chunk on the slow path would hold up the fast one: whether what the fast one could send meanwhile is more than what is left to be sent beside what the slow one has.
func holdsUp(v api.View, fast, slow api.PathView) bool {
	mss := uint64(min(max(v.Mss, 1), api.MaxMss))
	rounds := (timeOf(slow) + timeOf(fast) - 1) / timeOf(fast)
	meanwhile := mss * (2*frames(fast.Window) + rounds - 1) * rounds / 2
	taken := mss * (frames(slow.Inflight) + 1)
	// Both on one side: the difference may be below 0, and the edge of any size.
	return meanwhile+taken > ahead(v)
}

// ahead is how many bytes from the wanted chunk on lie ahead of the edge.
func ahead(v api.View) uint64 {
	if v.Want.Off > v.Edge {
		return 0
	}
	return v.Edge - v.Want.Off
}

// frames is a number of frames within its bounds, so that what is reckoned with it does not overflow.
func frames(n int) uint64 { return uint64(min(max(n, 0), api.MaxWindow)) }
