package pieces_test

import (
	"fmt"
	"math"
	"slices"
	"strings"
	"testing"

	"braid/api"
	"braid/pieces"
)

// places is numbers that no piece of n has.
func places(n int) []int {
	return []int{math.MinInt, math.MinInt + 1, -n, -2, -1, n, n + 1, 1 << 32, math.MaxInt - 1, math.MaxInt}
}

// nowhere is places without 0 and above of which there are some.
func nowhere(n int) []int {
	return slices.DeleteFunc(places(n), func(i int) bool { return i >= 0 && i < n })
}

// P22.4: New has no piece, whatever its root.
func TestNew(t *testing.T) {
	for _, m := range []api.Manifest{manifestOf("x", "abcdefg", 3), {Name: "y", Size: 7, Piece: 3}, {Name: "z", Size: 7, Piece: 3, Root: api.Sum{9}}} {
		s := fresh(t, m)
		s.stands(0, false, "", missingErr)
		s.missing(math.MaxInt, 0, 3)
		for i := range 3 {
			s.piece(i, "", missingErr)
			s.proof(i, nil, missingErr)
		}
		if s.s.Manifest() != m {
			t.Errorf("Manifest: %v, want %v", s.s.Manifest(), m)
		}
	}
}

// P22.4: Full takes just the file.
func TestFull(t *testing.T) {
	for size := range 20 {
		for piece := 1; piece < 22; piece++ {
			data := text(size)
			m := manifestOf("x", data, piece)
			s := full(t, m, data)
			parts := cutUp(data, piece)
			s.stands(len(parts), true, data, api.OK)
			s.missing(math.MaxInt)
			for i, p := range parts {
				s.piece(i, p, api.OK)
				s.proof(i, pathByBook(leavesOf(parts), i), api.OK)
				s.put(i, p, pathByBook(leavesOf(parts), i), false, api.OK)
				s.mark(i, p, false, api.OK)
			}
			for _, i := range nowhere(len(parts)) {
				s.piece(i, "", numberErr)
				s.proof(i, nil, numberErr)
			}
			if s.s.Manifest() != m {
				t.Errorf("Manifest: %v, want %v", s.s.Manifest(), m)
			}
		}
	}
}

// notFull awaits an error of Full.
func notFull(t *testing.T, what string, m api.Manifest, data string, want api.Errno) {
	t.Helper()
	if s, e := pieces.Full(m, []byte(data)); e != want || s != nil {
		t.Errorf("Full, %s: %d, want %d", what, e, want)
	}
}

// P22.4: what Full refuses.
func TestFullRefuses(t *testing.T) {
	const data = "abcdefg"
	m := manifestOf("x", data, 3)
	for n := range len(data) {
		notFull(t, fmt.Sprintf("%d bytes", n), m, data[:n], lengthErr)
	}
	notFull(t, "one more", m, data+"h", lengthErr)
	notFull(t, "many more", m, strings.Repeat(data, 100), lengthErr)
	for i := range len(data) {
		for bit := range 8 {
			b := []byte(data)
			b[i] ^= 1 << bit
			notFull(t, fmt.Sprintf("byte %d changed", i), m, string(b), rootErr)
		}
	}
	for bit := range 256 {
		other := m
		other.Root = turned(m.Root, bit)
		notFull(t, "another root", other, data, rootErr)
		notFull(t, "another root and too few", other, data[1:], lengthErr)
	}
	for _, piece := range []int{1, 2, 4, 5, 6, 7, 8} {
		other := m
		other.Piece = piece
		notFull(t, "cut otherwise", other, data, rootErr)
	}
	notFull(t, "pieces in another order", m, "defabcg", rootErr)
	none := api.Manifest{Name: "none", Piece: 4}
	notFull(t, "of no bytes, another root", none, "", rootErr)
	notFull(t, "of no bytes, a byte", none, "a", lengthErr)
	none.Root = pieces.Root(nil)
	full(t, none, "").stands(0, true, "", api.OK)
}

// P22.5: what Put refuses, the first error of the table.
func TestPutRefuses(t *testing.T) {
	const data = "abcdefghijklm"
	m := manifestOf("x", data, 3)
	parts := cutUp(data, 3)
	leaves := leavesOf(parts)
	s := fresh(t, m)
	for range 2 {
		for i, p := range parts {
			path := pathByBook(leaves, i)
			for _, at := range nowhere(len(parts)) {
				s.put(at, p, path, false, numberErr)
				s.put(at, p+"xxx", path[1:], false, numberErr)
				s.put(at, "", nil, false, numberErr)
			}
			for n := range 8 {
				if n != len(p) {
					s.put(i, data[:n], path, false, lengthErr)
					s.put(i, data[:n], nil, false, lengthErr)
				}
			}
			s.put(i, p, nil, false, proofErr)
			s.put(i, p, path[1:], false, proofErr)
			s.put(i, p, path[:len(path)-1], false, proofErr)
			s.put(i, p, append(slices.Clone(path), m.Root), false, proofErr)
			s.put(i, p[:len(p)-1]+"?", path, false, proofErr)
			for j := range parts {
				if j != i && len(parts[j]) == len(p) {
					s.put(j, p, path, false, proofErr)
					s.put(i, parts[j], path, false, proofErr)
					s.put(i, p, pathByBook(leaves, j), false, proofErr)
				}
			}
		}
		// once more with a piece that is there
		s.s.Put(2, []byte(parts[2]), pathByBook(leaves, 2))
	}
}

// P22.5: a piece that is there is told, and stays as it was.
func TestAgain(t *testing.T) {
	const data = "abcdefg"
	m := manifestOf("x", data, 3)
	leaves := leavesOf(cutUp(data, 3))
	s := fresh(t, m)
	s.put(1, "def", pathByBook(leaves, 1), true, api.OK)
	s.put(1, "def", pathByBook(leaves, 1), false, api.OK)
	s.mark(1, "def", false, api.OK)
	s.mark(1, "xyz", false, api.OK)
	s.piece(1, "def", api.OK)
	s.put(1, "xyz", pathByBook(leaves, 1), false, proofErr)
	s.piece(1, "def", api.OK)

	// What was marked is believed, and stays, though the right one comes.
	s.mark(0, "wxy", true, api.OK)
	s.put(0, "abc", pathByBook(leaves, 0), false, api.OK)
	s.mark(0, "abc", false, api.OK)
	s.piece(0, "wxy", api.OK)
	s.put(2, "g", pathByBook(leaves, 2), true, api.OK)
	s.stands(3, true, "wxydefg", api.OK)
	// Its proofs are those of what is there.
	wrong := leavesOf([]string{"wxy", "def", "g"})
	for i := range 3 {
		s.proof(i, pathByBook(wrong, i), api.OK)
	}
}

// P22.5: Mark asks for no path, and refuses what Put refuses but for that.
func TestMark(t *testing.T) {
	m := api.Manifest{Name: "x", Size: 11, Piece: 4} // a root that no file has
	s := fresh(t, m)
	for _, i := range nowhere(3) {
		s.mark(i, "abcd", false, numberErr)
		s.mark(i, "abc", false, numberErr)
		s.mark(i, "", false, numberErr)
	}
	for n := range 9 {
		if n != 4 {
			s.mark(0, strings.Repeat("a", n), false, lengthErr)
			s.mark(1, strings.Repeat("a", n), false, lengthErr)
		}
		if n != 3 {
			s.mark(2, strings.Repeat("a", n), false, lengthErr)
		}
	}
	s.put(2, "abc", nil, false, proofErr)
	s.mark(2, "abc", true, api.OK)
	s.mark(2, "abc", false, api.OK)
	s.mark(2, "abcd", false, lengthErr)
	s.mark(0, "\x00\x00\x00\x00", true, api.OK)
	s.piece(0, "\x00\x00\x00\x00", api.OK)
	s.piece(1, "", missingErr)
	s.stands(2, false, "", missingErr)
	s.mark(1, "efgh", true, api.OK)
	s.stands(3, true, "\x00\x00\x00\x00efghabc", api.OK)
	s.mark(1, "xxxx", false, api.OK)
	s.stands(3, true, "\x00\x00\x00\x00efghabc", api.OK)
}

// P22.6: Piece, Proof and Data with none, some and all there.
func TestPieceProofData(t *testing.T) {
	const size, piece = 17, 3
	data := text(size)
	parts := cutUp(data, piece)
	leaves := leavesOf(parts)
	d := dice(21)
	for range 30 {
		s := fresh(t, manifestOf("x", data, piece))
		came := make([]bool, len(parts))
		for k, i := range append(d.order(len(parts)), -1) {
			for j, p := range parts {
				if came[j] {
					s.piece(j, p, api.OK)
				} else {
					s.piece(j, "", missingErr)
				}
				if k == len(parts) {
					s.proof(j, pathByBook(leaves, j), api.OK)
				} else {
					s.proof(j, nil, missingErr)
				}
			}
			for _, j := range nowhere(len(parts)) {
				s.piece(j, "", numberErr)
				s.proof(j, nil, numberErr)
			}
			if i < 0 {
				s.stands(k, true, data, api.OK)
				continue
			}
			s.stands(k, false, "", missingErr)
			s.put(i, parts[i], pathByBook(leaves, i), true, api.OK)
			came[i] = true
		}
	}
}

// P22.6: Proof of stores great enough that roots are kept, at each place, in any order, again and again.
func TestProofsOfGreatStores(t *testing.T) {
	d := dice(22)
	for _, x := range []struct{ size, piece int }{{3000, 1}, {2048, 1}, {5000, 7}, {9000, 100}, {20000, 512}, {20000, 1024}, {66000, 1025}, {200000, 65536}} {
		data := text(x.size)
		parts := cutUp(data, x.piece)
		leaves := leavesOf(parts)
		m := manifestOf("x", data, x.piece)
		s := full(t, m, data)
		marked := fresh(t, m)
		for _, i := range d.order(len(parts)) {
			if ok, e := marked.s.Mark(i, []byte(parts[i])); !ok || e != api.OK {
				t.Fatalf("Mark(%d): %v, %d", i, ok, e)
			}
		}
		marked.stands(len(parts), true, data, api.OK)
		for range 60 {
			i := d.below(len(parts))
			want := pathByBook(leaves, i)
			s.proof(i, want, api.OK)
			marked.proof(i, want, api.OK)
			if !pieces.Leads(m.Root, len(parts), i, pieces.Leaf([]byte(parts[i])), want) {
				t.Fatalf("the proof of %d does not lead", i)
			}
		}
	}
}

// P22.7: Missing, Have and Done behind each piece.
func TestMissing(t *testing.T) {
	m := api.Manifest{Name: "x", Size: 20, Piece: 2}
	s := fresh(t, m)
	for _, most := range []int{math.MinInt, math.MinInt + 1, -5, -1, 0} {
		s.missing(most)
	}
	for most := 1; most < 13; most++ {
		s.missing(most, 0, uint64(min(most, 10)))
	}
	s.missing(math.MaxInt, 0, 10)
	for _, i := range []int{3, 7, 4, 0, 9} {
		s.mark(i, "ab", true, api.OK)
	}
	s.stands(5, false, "", missingErr)
	// 1, 2, 5, 6, 8
	s.missing(math.MinInt)
	s.missing(-1)
	s.missing(0)
	s.missing(1, 1, 2)
	s.missing(2, 1, 3)
	s.missing(3, 1, 3, 5, 6)
	s.missing(4, 1, 3, 5, 7)
	s.missing(5, 1, 3, 5, 7, 8, 9)
	s.missing(6, 1, 3, 5, 7, 8, 9)
	s.missing(math.MaxInt-1, 1, 3, 5, 7, 8, 9)
	s.missing(math.MaxInt, 1, 3, 5, 7, 8, 9)
	for _, i := range []int{8, 1, 2, 6} {
		s.mark(i, "ab", true, api.OK)
	}
	s.missing(1, 5, 6)
	s.missing(math.MaxInt, 5, 6)
	s.stands(9, false, "", missingErr)
	s.mark(5, "ab", true, api.OK)
	s.missing(1)
	s.missing(math.MaxInt)
	s.stands(10, true, strings.Repeat("ab", 10), api.OK)
}

// P22.7: a file without pieces is there at once.
func TestNoPieces(t *testing.T) {
	for _, root := range []api.Sum{pieces.Root(nil), {}, {7}} {
		m := api.Manifest{Name: "empty", Piece: 5, Root: root}
		s := fresh(t, m)
		s.stands(0, true, "", api.OK)
		for _, most := range []int{math.MinInt, 0, 1, 9, math.MaxInt} {
			s.missing(most)
		}
		for _, i := range append(places(0), 0) {
			s.put(i, "", nil, false, numberErr)
			s.put(i, "a", []api.Sum{root}, false, numberErr)
			s.mark(i, "", false, numberErr)
			s.mark(i, "abcde", false, numberErr)
			s.piece(i, "", numberErr)
			s.proof(i, nil, numberErr)
		}
		if s.s.Manifest() != m {
			t.Errorf("Manifest: %v", s.s.Manifest())
		}
	}
}

// P22.4, P22.7: a file of one piece, short or whole.
func TestOnePiece(t *testing.T) {
	for size := 1; size <= 4; size++ {
		data := text(size)
		m := manifestOf("x", data, 4)
		if m.Root != leafOf(data) {
			t.Error("the root of one piece is its leaf")
		}
		s := fresh(t, m)
		s.put(0, data, []api.Sum{m.Root}, false, proofErr)
		s.put(0, strings.Repeat("?", size), nil, false, proofErr)
		s.put(0, data, nil, true, api.OK)
		s.stands(1, true, data, api.OK)
		s.proof(0, nil, api.OK)
	}
}

// A Store that New and Full did not give.
func TestPlainStore(t *testing.T) {
	for what, x := range map[string]*pieces.Store{"nil": nil, "a plain one": {}} {
		s := store{t, x}
		for _, i := range append(places(1), 0) {
			for _, text := range []string{"", "a"} {
				if ok, e := x.Put(i, []byte(text), nil); ok || e != numberErr {
					t.Errorf("%s: Put(%d, %q): %v, %d", what, i, text, ok, e)
				}
				if ok, e := x.Put(i, []byte(text), make([]api.Sum, 2)); ok || e != numberErr {
					t.Errorf("%s: Put(%d, %q): %v, %d", what, i, text, ok, e)
				}
				if ok, e := x.Mark(i, []byte(text)); ok || e != numberErr {
					t.Errorf("%s: Mark(%d, %q): %v, %d", what, i, text, ok, e)
				}
			}
			s.piece(i, "", numberErr)
			s.proof(i, nil, numberErr)
			s.missing(i)
		}
		s.stands(0, false, "", missingErr)
		if m := x.Manifest(); m != (api.Manifest{}) {
			t.Errorf("%s: Manifest: %v", what, m)
		}
	}
}

// The greatest file of the least pieces: a store of it is made at once, and takes pieces anywhere.
func TestVeryManyPieces(t *testing.T) {
	s := fresh(t, api.Manifest{Name: "x", Size: 1 << 24, Piece: 1})
	for _, i := range []int{1<<24 - 1, 0, 1 << 23} {
		if ok, e := s.s.Mark(i, []byte{byte(i), 0}[:1]); !ok || e != api.OK {
			t.Errorf("Mark(%d): %v, %d", i, ok, e)
		}
	}
	s.missing(math.MaxInt, 1, 1<<23, 1<<23+1, 1<<24-1)
	s.missing(1<<23, 1, 1<<23, 1<<23+1, 1<<23+2)
	s.stands(3, false, "", missingErr)
	s.piece(1<<24-1, "\xff", api.OK)
	s.piece(1<<24, "", numberErr)
	if ok, e := s.s.Mark(1<<24, []byte{1}); ok || e != numberErr {
		t.Errorf("Mark behind the last one: %v, %d", ok, e)
	}
}
