package pieces_test

import (
	"math"
	"slices"
	"strings"
	"testing"

	"braid/api"
	"braid/pieces"
)

// files is texts, each with how many bytes its pieces have.
func files() map[string]int {
	return map[string]int{
		"":                        3,
		"a":                       1,
		"ab":                      1,
		"abcdefg":                 3,
		"abcdefgh":                4,
		text(33):                  2,
		text(64):                  8,
		text(65):                  8,
		text(500):                 17,
		strings.Repeat("a", 40):   5, // its pieces are alike
		strings.Repeat("a", 41):   5,
		strings.Repeat("\x00", 9): 2,
		text(3000):                250,
	}
}

// P22.9: a full store's Proof leads from each of its pieces to the root, and another store takes it.
func TestEachPieceIsProved(t *testing.T) {
	for data, piece := range files() {
		m, _ := pieces.Describe("x", []byte(data), piece)
		giver, taker := full(t, m, data), fresh(t, m)
		for i := range pieces.Count(m) {
			p, _ := giver.s.Piece(i)
			path, e := giver.s.Proof(i)
			if e != api.OK || !pieces.Leads(m.Root, pieces.Count(m), i, pieces.Leaf(p), path) {
				t.Errorf("piece %d of %d is not proved: %d", i, pieces.Count(m), e)
			}
			if ok, e := taker.s.Put(i, p, path); !ok || e != api.OK {
				t.Errorf("piece %d of %d is not taken: %v, %d", i, pieces.Count(m), ok, e)
			}
		}
		taker.stands(pieces.Count(m), true, data, api.OK)
		for i := range pieces.Count(m) {
			path, _ := giver.s.Proof(i)
			taker.proof(i, path, api.OK)
		}
	}
}

// P22.10: with each bit of a piece or of its path turned, it is told.
func TestAWrongPieceIsTold(t *testing.T) {
	for data, piece := range files() {
		if len(data) > 100 {
			continue
		}
		m := manifestOf("x", data, piece)
		parts := cutUp(data, piece)
		s := fresh(t, m)
		for i, p := range parts {
			path := pathByBook(leavesOf(parts), i)
			for bit := range 8 * len(p) {
				b := []byte(p)
				b[bit/8] ^= 1 << (bit % 8)
				if ok, e := s.s.Put(i, b, path); ok || e != proofErr {
					t.Errorf("piece %d with bit %d turned: %v, %d", i, bit, ok, e)
				}
			}
			for k := range path {
				for bit := range 256 {
					l := slices.Clone(path)
					l[k] = turned(l[k], bit)
					if ok, e := s.s.Put(i, []byte(p), l); ok || e != proofErr {
						t.Errorf("piece %d with a digest turned: %v, %d", i, ok, e)
					}
				}
			}
		}
		if s.s.Have() != 0 || s.s.Done() != (len(parts) == 0) {
			t.Errorf("wrong pieces are there: %d", s.s.Have())
		}
	}
}

// P22.10: a piece at another one's place, with either path or any path of the file, is taken only if the two are alike.
func TestAPieceElsewhere(t *testing.T) {
	for data, piece := range files() {
		if len(data) > 100 {
			continue
		}
		m := manifestOf("x", data, piece)
		parts := cutUp(data, piece)
		leaves := leavesOf(parts)
		for i, p := range parts {
			for j := range parts {
				for k := range parts {
					s := fresh(t, m)
					ok, e := s.s.Put(i, []byte(parts[j]), pathByBook(leaves, k))
					if ok != (e == api.OK) || ok && parts[j] != p {
						t.Errorf("piece %d at place %d with the path of %d: %v, %d", j, i, k, ok, e)
					}
				}
			}
		}
	}
}

// P22.10: a node's text is not taken for a piece, nor a piece for a node: whoever cuts a tree short, or makes it deeper, is told.
func TestATreeOfAnotherDepth(t *testing.T) {
	d := dice(41)
	// A file of two pieces of 64 bytes; the root of its tree is that of a file of one piece only if a leaf were made as a node is.
	two := string(d.bytes(128))
	m := manifestOf("x", two, 64)
	leaves := leavesOf(cutUp(two, 64))
	node := string(slices.Concat(leaves[0][:], leaves[1][:]))
	one := api.Manifest{Name: "x", Size: 64, Piece: 64, Root: m.Root}
	s := fresh(t, one)
	s.put(0, node, nil, false, proofErr)
	notFull(t, "a node's digests as a file", one, node, rootErr)
	long := api.Manifest{Name: "x", Size: 65, Piece: 65, Root: m.Root}
	s = fresh(t, long)
	s.put(0, "\x01"+node, nil, false, proofErr)
	notFull(t, "a node's text as a file", long, "\x01"+node, rootErr)
	// A file whose one piece is a node's text; a tree of two is not led to by it.
	text := string(slices.Concat([]byte{1}, leaves[0][:], leaves[1][:]))
	deep := api.Manifest{Name: "x", Size: 65, Piece: 64, Root: leafOf(text)}
	s = fresh(t, deep)
	s.put(0, two[:64], leaves[1:], false, proofErr)
}

// P22.11: all pieces in any order, again and again, with wrong ones between.
func TestWhole(t *testing.T) {
	d := dice(42)
	for data, piece := range files() {
		m, _ := pieces.Describe("x", []byte(data), piece)
		parts := cutUp(data, piece)
		leaves := leavesOf(parts)
		for range 3 {
			s := fresh(t, m)
			came := make([]bool, len(parts))
			calls := slices.Concat(d.order(len(parts)), d.order(len(parts)), d.order(len(parts)))
			for k, at := range calls {
				i := calls[d.below(k+1)] // some again, and some late
				if k >= 2*len(parts) {
					i = at
				}
				wrong := d.below(len(parts))
				if p := d.spoilt(parts[wrong]); p != parts[wrong] {
					if ok, e := s.s.Put(wrong, []byte(p), pathByBook(leaves, wrong)); ok || e == api.OK {
						t.Fatalf("a wrong piece: %v, %d", ok, e)
					}
				}
				ok, e := s.s.Put(i, []byte(parts[i]), pathByBook(leaves, i))
				if ok == came[i] || e != api.OK {
					t.Fatalf("Put(%d): %v, %d", i, ok, e)
				}
				came[i] = true
				s.addsUp()
				if done := !slices.Contains(came, false); s.s.Done() != done {
					t.Fatalf("Done is %v", !done)
				}
			}
			s.stands(len(parts), true, data, api.OK)
		}
	}
}

// P22.11: each order of a few pieces.
func TestEachOrder(t *testing.T) {
	const data = "abcdefghi"
	m := manifestOf("x", data, 2)
	parts := cutUp(data, 2)
	leaves := leavesOf(parts)
	var each func(came []int)
	each = func(came []int) {
		if len(came) == len(parts) {
			s := fresh(t, m)
			for k, i := range came {
				if s.s.Done() || s.s.Have() != k {
					t.Errorf("behind %v: Have %d", came[:k], s.s.Have())
				}
				if ok, e := s.s.Put(i, []byte(parts[i]), pathByBook(leaves, i)); !ok || e != api.OK {
					t.Errorf("Put(%d) behind %v: %v, %d", i, came[:k], ok, e)
				}
				s.addsUp()
			}
			s.stands(5, true, data, api.OK)
			return
		}
		for i := range parts {
			if !slices.Contains(came, i) {
				each(append(came[:len(came):len(came)], i))
			}
		}
	}
	each(nil)
}

// P22.11: whoever asks for what Missing tells, some at a time, gets the file.
func TestByMissing(t *testing.T) {
	for data, piece := range files() {
		m, _ := pieces.Describe("x", []byte(data), piece)
		for _, most := range []int{1, 2, 3, math.MaxInt} {
			giver, taker := full(t, m, data), fresh(t, m)
			asked := 0
			for !taker.s.Done() {
				l := taker.s.Missing(most)
				if len(l) == 0 {
					t.Fatal("not Done, and nothing is missing")
				}
				for _, r := range l {
					for i := int(r.Lo); i < int(r.Hi); i++ {
						p, _ := giver.s.Piece(i)
						path, _ := giver.s.Proof(i)
						if ok, e := taker.s.Put(i, p, path); !ok || e != api.OK {
							t.Fatalf("Put(%d): %v, %d", i, ok, e)
						}
						asked++
					}
				}
			}
			if asked != pieces.Count(m) {
				t.Errorf("%d pieces were asked for, of %d", asked, pieces.Count(m))
			}
			taker.stands(asked, true, data, api.OK)
		}
	}
}

// P22.9 of stores that were filled by Mark: their proofs lead to the root of what they have.
func TestProofsOfWhatIsThere(t *testing.T) {
	d := dice(43)
	for n := 1; n < 20; n++ {
		parts := cutUp(string(d.bytes(3*n)), 3)
		s := fresh(t, api.Manifest{Name: "x", Size: 3 * n, Piece: 3, Root: d.sum()})
		for _, i := range d.order(n) {
			s.mark(i, parts[i], true, api.OK)
		}
		root := pieces.Root(leavesOf(parts))
		for i := range n {
			path, e := s.s.Proof(i)
			if e != api.OK || !pieces.Leads(root, n, i, leafOf(parts[i]), path) {
				t.Errorf("the proof of %d of %d: %d", i, n, e)
			}
		}
	}
}
