package pieces

import (
	"math/bits"

	"braid/api"
	"braid/sums"
)

// What stands ahead of a leaf's text and of a node's: so neither can be taken for the other one.
const (
	leafMark = 0
	nodeMark = 1
)

// Leaf is a piece's digest.
func Leaf(data []byte) api.Sum { return sums.Of([]byte{leafMark}, data) }

// node is the digest over two others.
func node(left, right api.Sum) api.Sum { return sums.Of([]byte{nodeMark}, left[:], right[:]) }

// climb goes through the tree over the places from lo on, ahead of hi, from the digest at the place i up to the root. On its way each other root that is met, from below, is asked for by the places that it stands over.
func climb(lo, hi, i int, from api.Sum, other func(lo, hi int) api.Sum) api.Sum {
	var up func(lo, hi int) api.Sum
	up = func(lo, hi int) api.Sum {
		if hi-lo == 1 {
			return from
		}
		mid := lo + split(hi-lo)
		if i < mid {
			left := up(lo, mid)
			return node(left, other(mid, hi))
		}
		right := up(mid, hi)
		return node(other(lo, mid), right)
	}
	return up(lo, hi)
}

// split is the greatest power of two below n, which is above 1.
func split(n int) int { return 1 << (bits.Len(uint(n-1)) - 1) }

// row is digests side by side.
type row []api.Sum

// over is the root over the digests from lo on, ahead of hi.
func (r row) over(lo, hi int) api.Sum {
	if lo == hi {
		return sums.Of()
	}
	return climb(lo, hi, lo, r[lo], r.over)
}

// Root is the root over a row of digests.
func Root(leaves []api.Sum) api.Sum { return row(leaves).over(0, len(leaves)) }

// Path is what leads from a digest of the row to the root.
func Path(leaves []api.Sum, i int) ([]api.Sum, api.Errno) {
	if i < 0 || i >= len(leaves) {
		return nil, api.ErrPieceNumber
	}
	return pathOf(len(leaves), i, row(leaves).over), api.OK
}

// pathOf is the path of the place i of n, of which over gives the roots.
func pathOf(n, i int, over func(lo, hi int) api.Sum) []api.Sum {
	var path []api.Sum
	// A path has neither its first digest nor what is made of it: any will do there.
	climb(0, n, i, api.Sum{}, func(lo, hi int) api.Sum {
		root := over(lo, hi)
		path = append(path, root)
		return root
	})
	return path
}

// Leads tells whether a path leads from a digest, the one at a place of n, to a root.
func Leads(root api.Sum, n, i int, leaf api.Sum, path []api.Sum) bool {
	if i < 0 || i >= n {
		return false
	}
	met := 0
	top := climb(0, n, i, leaf, func(lo, hi int) api.Sum {
		met++
		if met > len(path) {
			return api.Sum{}
		}
		return path[met-1]
	})
	return met == len(path) && top == root
}
