package sendbuf

import "braid/api"

// chunk is a piece of the stream that goes out whole, or its end.
type chunk struct {
	off   uint64
	bytes []byte
	fin   bool
	on    paths // it is under way on these
	out   bool  // it has gone out once
	held  bool
}

// behind is the first place of the stream behind it; the end takes one place too.
func (c *chunk) behind() uint64 {
	if c.fin {
		return c.off + 1
	}
	return c.off + uint64(len(c.bytes))
}

// shown is the chunk as it is handed out, with memory of its own.
func (c *chunk) shown() api.Chunk {
	return api.Chunk{Off: c.off, Len: len(c.bytes), Fin: c.fin, On: c.on.list(), Held: c.held}
}

// paths is a set of paths, a bit each.
type paths uint8

const everyPath paths = 1<<api.MaxPaths - 1

// only is the set of this path alone; of a number that is no path the empty one.
func only(path int) paths {
	if path < 0 || path >= api.MaxPaths {
		return 0
	}
	return 1 << path
}

func (p paths) list() []int {
	var l []int
	for path := range api.MaxPaths {
		if p&only(path) != 0 {
			l = append(l, path)
		}
	}
	return l
}
