package pieces_test

import (
	"fmt"
	"slices"
	"testing"

	"braid/api"
	"braid/pieces"
)

// Examples 1 and 2.
func TestExamplesOfTrees(t *testing.T) {
	if hexOf(pieces.Leaf(nil)) != "6e340b9cffb37a989ca544e6bb780a2c78901d3fb33738768511a30617afa01d" {
		t.Error("the leaf of nothing")
	}
	if hexOf(pieces.Root(nil)) != "e3b0c44298fc1c149afbf4c8996fb92427ae41e4649b934ca495991b7852b855" {
		t.Error("the root of nothing")
	}
	l := []api.Sum{leafOf("a"), leafOf("b"), leafOf("c"), leafOf("d"), leafOf("e")}
	a, b, c, d, e := l[0], l[1], l[2], l[3], l[4]
	if pieces.Root(l[:1]) != a {
		t.Error("the root of one digest")
	}
	four := nodeOf(nodeOf(a, b), nodeOf(c, d))
	if pieces.Root(l) != nodeOf(four, e) {
		t.Error("the root of five")
	}
	if p, f := pieces.Path(l, 2); f != api.OK || !slices.Equal(p, []api.Sum{d, nodeOf(a, b), e}) {
		t.Error("the path of place 2")
	}
	if p, f := pieces.Path(l, 4); f != api.OK || !slices.Equal(p, []api.Sum{four}) {
		t.Error("the path of place 4")
	}
	if p, f := pieces.Path(l, 5); f != numberErr || len(p) != 0 {
		t.Error("the path of place 5")
	}
}

// Examples 3, 4 and 5.
func TestExamplesOfStores(t *testing.T) {
	abc, def, g := leafOf("abc"), leafOf("def"), leafOf("g")
	m, e := pieces.Describe("x", []byte("abcdefg"), 3)
	if e != api.OK || m != (api.Manifest{Name: "x", Size: 7, Piece: 3, Root: nodeOf(nodeOf(abc, def), g)}) {
		t.Errorf("%v, %d", m, e)
	}
	if pieces.Count(m) != 3 || pieces.Size(m, 2) != 1 || pieces.Size(m, 3) != 0 {
		t.Error("Count and Size")
	}
	for _, x := range []struct {
		name  string
		piece int
		want  api.Errno
	}{{"", 3, nameErr}, {"a/b", 3, nameErr}, {"x", 0, cutErr}} {
		if _, e := pieces.Describe(x.name, []byte("abcdefg"), x.piece); e != x.want {
			t.Errorf("Describe(%q, .., %d): %d", x.name, x.piece, e)
		}
	}

	s := fresh(t, m)
	path := []api.Sum{abc, g}
	s.put(1, "def", path, true, api.OK)
	s.put(1, "def", path, false, api.OK)
	s.put(1, "dex", path, false, proofErr)
	s.put(2, "gh", nil, false, lengthErr)
	s.put(3, "g", nil, false, numberErr)
	s.put(2, "g", []api.Sum{abc}, false, proofErr)
	s.missing(5, 0, 1, 2, 3)
	s.missing(1, 0, 1)
	s.stands(1, false, "", missingErr)
	s.piece(1, "def", api.OK)
	s.piece(0, "", missingErr)
	s.proof(1, nil, missingErr)

	s.mark(0, "abc", true, api.OK)
	s.mark(2, "g", true, api.OK)
	s.stands(3, true, "abcdefg", api.OK)
	s.proof(1, path, api.OK)
}

// Examples 6 and 7.
func TestExamplesOfManifests(t *testing.T) {
	m, e := pieces.Describe("empty", nil, 5)
	if e != api.OK || m.Size != 0 || m.Root != pieces.Root(nil) {
		t.Errorf("%v, %d", m, e)
	}
	s := fresh(t, m)
	s.stands(0, true, "", api.OK)
	s.missing(9)

	m, _ = pieces.Describe("x", []byte("abcdefg"), 3)
	b := there(t, m)
	if len(b) != 50 || string(b[:14]) != "BRP1\x01x\x00\x00\x00\x07\x00\x00\x00\x03" || string(b[14:46]) != string(m.Root[:]) {
		t.Errorf("%x", b)
	}
	for i := range b {
		c := slices.Clone(b)
		c[i]++
		refused(t, fmt.Sprintf("byte %d changed", i), c)
	}
	refused(t, "cut off", b[:49])
	refused(t, "a byte behind it", append(b, 0))
}
