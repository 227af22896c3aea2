package pieces_test

import (
	"crypto/sha256"
	"encoding/hex"
	"fmt"
	"math"
	"slices"
	"testing"

	"braid/api"
	"braid/pieces"
)

func hexOf(s api.Sum) string { return hex.EncodeToString(s[:]) }

// P22.1
func TestLeaf(t *testing.T) {
	const none = "6e340b9cffb37a989ca544e6bb780a2c78901d3fb33738768511a30617afa01d"
	if hexOf(pieces.Leaf(nil)) != none || hexOf(pieces.Leaf([]byte{})) != none {
		t.Error("the leaf of nothing")
	}
	d := dice(1)
	for n := range 300 {
		b := d.bytes(n)
		if pieces.Leaf(b) != leafOf(string(b)) {
			t.Errorf("the leaf of %d bytes", n)
		}
	}
	for _, n := range []int{1023, 1024, 65535, 65536, 65537, 1 << 20} {
		if b := d.bytes(n); pieces.Leaf(b) != leafOf(string(b)) {
			t.Errorf("the leaf of %d bytes", n)
		}
	}
}

// P22.1: a leaf made of a node's text is not that node, nor a leaf's text without its mark a leaf.
func TestLeafIsNoNode(t *testing.T) {
	d := dice(2)
	a, b := d.sum(), d.sum()
	node := pieces.Root([]api.Sum{a, b})
	for _, ahead := range []string{"", "\x00", "\x01"} {
		if pieces.Leaf(slices.Concat([]byte(ahead), a[:], b[:])) == node {
			t.Errorf("with %q ahead the leaf of two digests is their node", ahead)
		}
	}
	if node != sha256.Sum256(slices.Concat([]byte{1}, a[:], b[:])) || pieces.Root([]api.Sum{b, a}) == node {
		t.Error("the node over two digests")
	}
}

// sizes is how many digests the rows of these tests have: all numbers past some powers of two, and greater ones about them.
func sizes() []int {
	var l []int
	for n := range 70 {
		l = append(l, n)
	}
	return append(l, 127, 128, 129, 255, 256, 257, 300)
}

// P22.1
func TestRootAndPath(t *testing.T) {
	d := dice(3)
	for _, n := range sizes() {
		l := d.sums(n)
		if pieces.Root(l) != rootByBook(l) {
			t.Errorf("the root of %d", n)
		}
		for i := range l {
			path, e := pieces.Path(l, i)
			if e != api.OK || !slices.Equal(path, pathByBook(l, i)) {
				t.Errorf("the path of place %d of %d: %d digests, %d", i, n, len(path), e)
			}
		}
		for _, i := range []int{-1, -2, n, n + 1, -n, math.MinInt, math.MinInt + 1, math.MaxInt, 1 << 32} {
			if i >= 0 && i < n {
				continue
			}
			if path, e := pieces.Path(l, i); e != numberErr || len(path) != 0 {
				t.Errorf("the path of place %d of %d: %d digests, %d", i, n, len(path), e)
			}
		}
	}
}

// P22.1: digests that are alike.
func TestRootOfLikeDigests(t *testing.T) {
	for _, n := range sizes() {
		l := make([]api.Sum, n)
		if pieces.Root(l) != rootByBook(l) {
			t.Errorf("the root of %d that are alike", n)
		}
	}
}

// P22.1: a row of some ten thousand, at a few places.
func TestGreatRow(t *testing.T) {
	d := dice(4)
	for _, n := range []int{16384, 16385, 20000} {
		l := d.sums(n)
		root := rootByBook(l)
		if pieces.Root(l) != root {
			t.Errorf("the root of %d", n)
		}
		for _, i := range []int{0, 1, 16383, n - 1} {
			path, e := pieces.Path(l, i)
			if e != api.OK || !slices.Equal(path, pathByBook(l, i)) || !pieces.Leads(root, n, i, l[i], path) {
				t.Errorf("the path of place %d of %d", i, n)
			}
		}
	}
}

// leads awaits an answer of Leads.
func leads(t *testing.T, what string, want bool, root api.Sum, n, i int, leaf api.Sum, path []api.Sum) {
	t.Helper()
	if got := pieces.Leads(root, n, i, leaf, path); got != want {
		t.Errorf("place %d of %d, %s: Leads is %v", i, n, what, got)
	}
}

// turned is a digest with one bit turned.
func turned(s api.Sum, bit int) api.Sum {
	s[bit/8%32] ^= 1 << (bit % 8)
	return s
}

// P22.1, P22.9: each path leads from its digest to the root, and nothing else does.
func TestLeads(t *testing.T) {
	d := dice(5)
	for _, n := range sizes() {
		l := d.sums(n)
		root := pieces.Root(l)
		for i, leaf := range l {
			path, _ := pieces.Path(l, i)
			leads(t, "the right path", true, root, n, i, leaf, path)
			leads(t, "another root", false, turned(root, d.below(256)), n, i, leaf, path)
			leads(t, "another digest", false, root, n, i, turned(leaf, d.below(256)), path)
			leads(t, "the zero root", false, api.Sum{}, n, i, leaf, path)
			leads(t, "one more", false, root, n, i, leaf, append(path[:len(path):len(path)], d.sum()))
			leads(t, "one more ahead", false, root, n, i, leaf, append([]api.Sum{d.sum()}, path...))
			leads(t, "one more, the root", false, root, n, i, leaf, append(path[:len(path):len(path)], root))
			leads(t, "one more, the zero digest", false, root, n, i, leaf, append(path[:len(path):len(path)], api.Sum{}))
			spoiltPaths(t, &d, root, l, i, path)
		}
	}
}

// spoiltPaths holds that a path of at least one digest that is spoilt does not lead to the root.
func spoiltPaths(t *testing.T, d *dice, root api.Sum, l []api.Sum, i int, path []api.Sum) {
	t.Helper()
	n := len(l)
	for k := range path {
		leads(t, "one changed", false, root, n, i, l[i], slices.Replace(slices.Clone(path), k, k+1, turned(path[k], d.below(256))))
		leads(t, "one less", false, root, n, i, l[i], slices.Delete(slices.Clone(path), k, k+1))
		leads(t, "cut off", false, root, n, i, l[i], path[:k])
		for j := range k {
			other := slices.Clone(path)
			other[j], other[k] = other[k], other[j]
			leads(t, "two in the other order", false, root, n, i, l[i], other)
		}
	}
}

// P22.1: for another number of leaves, or at another place, the path leads there only where it is put together the same way.
func TestLeadsElsewhere(t *testing.T) {
	d := dice(6)
	for _, n := range []int{1, 2, 3, 4, 5, 6, 7, 8, 9, 15, 16, 17, 31, 33} {
		l := d.sums(n)
		root := pieces.Root(l)
		for i := range l {
			path, _ := pieces.Path(l, i)
			for m := range 40 {
				for j := range m {
					want := shape(m, j) == shape(n, i)
					leads(t, fmt.Sprintf("the path of %d of %d", i, n), want, root, m, j, l[i], path)
				}
			}
		}
	}
}

// shape is how the path of a place is put together: from below, whether each digest stands to the left or to the right.
func shape(n, i int) string {
	if n == 1 {
		return ""
	}
	if k := below2(n); i < k {
		return shape(k, i) + "r"
	} else {
		return shape(n-k, i-k) + "l"
	}
}

// P22.1: places that are not there, and the least and greatest numbers.
func TestLeadsNowhere(t *testing.T) {
	d := dice(7)
	leaf := d.sum()
	for _, n := range []int{math.MinInt, -2, -1, 0, 1, 2, 5, 8, math.MaxInt} {
		for _, i := range []int{math.MinInt, math.MinInt + 1, -9, -1, n, n + 1, math.MaxInt} {
			if i >= 0 && i < n {
				continue
			}
			for k := range 4 {
				leads(t, "no such place", false, leaf, n, i, leaf, d.sums(k))
			}
			leads(t, "no such place", false, pieces.Root(nil), n, i, pieces.Root(nil), nil)
		}
	}
	leads(t, "one of one", true, leaf, 1, 0, leaf, nil)
	leads(t, "one of one", true, leaf, 1, 0, leaf, []api.Sum{})
	leads(t, "one of one, and a digest", false, leaf, 1, 0, leaf, []api.Sum{leaf})
}

// together puts a path together by the chapter's words; nothing, if it has not as many digests as it must.
func together(n, i int, leaf api.Sum, path []api.Sum) (api.Sum, bool) {
	if n == 1 {
		return leaf, len(path) == 0
	}
	if len(path) == 0 {
		return api.Sum{}, false
	}
	below, last := path[:len(path)-1], path[len(path)-1]
	if k := below2(n); i < k {
		x, ok := together(k, i, leaf, below)
		return nodeOf(x, last), ok
	} else {
		x, ok := together(n-k, i-k, leaf, below)
		return nodeOf(last, x), ok
	}
}

// P22.1: rows that are too long for any list.
func TestLeadsOfGreatNumbers(t *testing.T) {
	d := dice(8)
	for _, n := range []int{math.MaxInt, math.MaxInt - 1, 1 << 62, 1<<62 + 1, 1<<62 - 1, 1 << 40, 1<<24 + 1, 1<<61 + 1<<30 + 1} {
		for _, i := range []int{0, 1, 2, n / 2, n/2 + 1, n - 2, n - 1, 1 << 20} {
			long := d.sums(64)
			right := 0
			for k := range len(long) + 1 {
				path := long[:k]
				root, ok := together(n, i, long[0], path)
				if ok {
					right++
					leads(t, "the zero root", false, api.Sum{}, n, i, long[0], path)
				}
				leads(t, fmt.Sprintf("%d digests", k), ok, root, n, i, long[0], path)
			}
			if right != 1 {
				t.Errorf("place %d of %d: paths of %d lengths are right", i, n, right)
			}
		}
	}
}

// A path with very many digests is told at once.
func TestVeryLongPath(t *testing.T) {
	leads(t, "a million digests", false, api.Sum{}, math.MaxInt, 5, api.Sum{}, make([]api.Sum, 1000000))
}

// Where digests of a path were wanting, nothing may stand in for them.
func TestNothingForADigest(t *testing.T) {
	leaf := leafOf("a")
	leads(t, "a wanting digest", false, nodeOf(leaf, api.Sum{}), 2, 0, leaf, nil)
	leads(t, "a wanting digest", false, nodeOf(api.Sum{}, leaf), 2, 1, leaf, nil)
	leads(t, "the zero digest itself", true, nodeOf(leaf, api.Sum{}), 2, 0, leaf, make([]api.Sum, 1))
}
