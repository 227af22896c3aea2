package gobackn

import "braid/api"

// line is the chunks that have gone out and are not settled, in the order of the stream. There are never more than Backn: what goes out behind them waits for the first to be settled.
type line struct {
	chunks []api.Chunk
	first  uint64 // the place of the first of them, or of the next one to go out
	row    int    // so many of them, from the first on, are under way
}

// ever is how many chunks have ever gone out.
func (l *line) ever() uint64 { return l.first + uint64(len(l.chunks)) }

// settle takes the first chunk away; it need not be under way.
func (l *line) settle() {
	l.chunks = l.chunks[1:]
	l.first++
	l.row = max(l.row-1, 0)
}

// behind is the first place of the stream behind a chunk; the end takes one place too.
func behind(c api.Chunk) uint64 {
	if c.Fin {
		return c.Off + 1
	}
	return c.Off + uint64(c.Len)
}
