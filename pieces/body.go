package pieces

import (
	"braid/api"
	"braid/sums"
)

// grain is over how many bytes a root stands at least that is kept: so all of them together have far fewer bytes than the file.
const grain = 1024

// body is a file's bytes, cut into pieces.
type body struct {
	bytes []byte
	piece int
	// roots are those that were asked for, as a piece that is there never changes: else each Proof would go through the whole file.
	roots map[api.Range]api.Sum
}

func bodyOf(bytes []byte, piece int) body {
	return body{bytes: bytes, piece: piece, roots: map[api.Range]api.Sum{}}
}

// cut is where a piece lies. It ends there, so that nobody appends into the next one.
func (b *body) cut(i int) []byte {
	lo := i * b.piece
	hi := min(lo+b.piece, len(b.bytes))
	return b.bytes[lo:hi:hi]
}

// over is the root over the pieces from lo on, ahead of hi, all of which are there.
func (b *body) over(lo, hi int) api.Sum {
	if lo == hi {
		return sums.Of()
	}
	at := api.Range{Lo: uint64(lo), Hi: uint64(hi)}
	if root, ok := b.roots[at]; ok {
		return root
	}
	root := climb(lo, hi, lo, Leaf(b.cut(lo)), b.over)
	if (hi-lo)*b.piece >= grain {
		b.roots[at] = root
	}
	return root
}
