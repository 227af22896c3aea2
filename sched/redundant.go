package sched

import "braid/api"

// redundant sends every chunk on every path, the path that is farthest behind first.
type redundant struct{ listless }

func (redundant) Next(v api.View) (api.Pick, bool) {
	free := ready(v.Paths)
	may := func(p api.PathView) bool { return p.Has && free(p) }
	path := least(v.Paths, may, func(p api.PathView) uint64 { return p.Next.Off })
	if path < 0 {
		return api.Pick{}, false
	}
	return send(path, v.Paths[path].Next)
}
