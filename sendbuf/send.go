package sendbuf

import (
	"cmp"
	"slices"

	"braid/api"
)

// Want is the lowest chunk that may go out and is under way nowhere.
func (b *Buffer) Want() (api.Chunk, bool) { return b.lowest(everyPath) }

// Next is the lowest chunk that may go out and is not under way on this path.
func (b *Buffer) Next(path int) (api.Chunk, bool) {
	p := only(path)
	if p == 0 {
		return api.Chunk{}, false
	}
	return b.lowest(p)
}

// lowest is the lowest chunk that may go out, is not held, and is under way on none of these paths.
func (b *Buffer) lowest(free paths) (api.Chunk, bool) {
	var found *chunk
seek:
	for i := range b.chunks {
		c := &b.chunks[i]
		switch {
		case !b.mayGo(c):
			// Nothing behind it may: bytes there lie farther beyond the edge, and the end waits for this one.
			break seek
		case !c.held && c.on&free == 0:
			found = c
			break seek
		}
	}
	if found == nil {
		return api.Chunk{}, false
	}
	return found.shown(), true
}

// mayGo tells whether a chunk may go out, whatever became of it before.
func (b *Buffer) mayGo(c *chunk) bool {
	if c.fin {
		return b.allOut()
	}
	return c.behind() <= b.edge
}

// allOut tells whether each chunk with bytes that is there has gone out once.
func (b *Buffer) allOut() bool {
	for i := range b.chunks {
		if c := &b.chunks[i]; !c.fin && !c.out {
			return false
		}
	}
	return true
}

// at is the chunk at an offset; nil, if there is none.
func (b *Buffer) at(off uint64) *chunk {
	i, ok := slices.BinarySearchFunc(b.chunks, off, func(c chunk, off uint64) int { return cmp.Compare(c.off, off) })
	if !ok {
		return nil
	}
	return &b.chunks[i]
}

// May tells whether there is just this chunk, and it may go out on this path.
func (b *Buffer) May(path int, off uint64, n int) bool {
	c := b.at(off)
	return c != nil && len(c.bytes) == n && b.mayOn(c, only(path))
}

func (b *Buffer) mayOn(c *chunk, p paths) bool {
	return p != 0 && c.on&p == 0 && !c.held && b.mayGo(c)
}

// Sent notes that a chunk goes out on a path.
func (b *Buffer) Sent(path int, off uint64) bool {
	c, p := b.at(off), only(path)
	if c == nil || !b.mayOn(c, p) {
		return false
	}
	c.on |= p
	c.out = true
	b.high = max(b.high, c.off+uint64(len(c.bytes)))
	return true
}

// Lost notes that it is not under way there any more.
func (b *Buffer) Lost(path int, off uint64) bool { return b.landed(path, off) != nil }

// Held notes that this path has acknowledged it.
func (b *Buffer) Held(path int, off uint64) bool {
	c := b.landed(path, off)
	if c == nil {
		return false
	}
	c.held = true
	return true
}

// landed is the chunk at an offset, which is not under way on this path any more; nil, if it was not before.
func (b *Buffer) landed(path int, off uint64) *chunk {
	c, p := b.at(off), only(path)
	if c == nil || c.on&p == 0 {
		return nil
	}
	c.on &^= p
	return c
}
