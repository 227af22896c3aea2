package pieces_test

import (
	"fmt"
	"math"
	"slices"
	"strings"
	"testing"

	"braid/api"
	"braid/pieces"
)

// storeByBook is a store by the chapter's words: what came, a text a place.
type storeByBook struct {
	m    api.Manifest
	came []*string
}

func newBook(m api.Manifest) *storeByBook {
	n := 0
	for left := m.Size; left > 0; left -= m.Piece {
		n++
	}
	return &storeByBook{m: m, came: make([]*string, n)}
}

func (s *storeByBook) size(i int) int {
	if i == len(s.came)-1 {
		return s.m.Size - (len(s.came)-1)*s.m.Piece
	}
	return s.m.Piece
}

func (s *storeByBook) there(i int) bool { return i >= 0 && i < len(s.came) }

func (s *storeByBook) refuses(i int, data string) api.Errno {
	if !s.there(i) {
		return numberErr
	}
	if len(data) != s.size(i) {
		return lengthErr
	}
	return api.OK
}

func (s *storeByBook) put(i int, data string, path []api.Sum) (bool, api.Errno) {
	if e := s.refuses(i, data); e != api.OK {
		return false, e
	}
	if root, ok := together(len(s.came), i, leafOf(data), path); !ok || root != s.m.Root {
		return false, proofErr
	}
	return s.mark(i, data)
}

func (s *storeByBook) mark(i int, data string) (bool, api.Errno) {
	if e := s.refuses(i, data); e != api.OK {
		return false, e
	}
	if s.came[i] != nil {
		return false, api.OK
	}
	s.came[i] = &data
	return true, api.OK
}

func (s *storeByBook) parts() []string {
	var l []string
	for _, p := range s.came {
		if p != nil {
			l = append(l, *p)
		}
	}
	return l
}

func (s *storeByBook) done() bool { return len(s.parts()) == len(s.came) }

func (s *storeByBook) piece(i int) (string, api.Errno) {
	switch {
	case !s.there(i):
		return "", numberErr
	case s.came[i] == nil:
		return "", missingErr
	}
	return *s.came[i], api.OK
}

func (s *storeByBook) proof(i int) ([]api.Sum, api.Errno) {
	switch {
	case !s.there(i):
		return nil, numberErr
	case !s.done():
		return nil, missingErr
	}
	return pathByBook(leavesOf(s.parts()), i), api.OK
}

func (s *storeByBook) missing(most int) []api.Range {
	var l []api.Range
	n := 0
	for i, p := range s.came {
		if p != nil || n >= most {
			continue
		}
		n++
		if k := len(l) - 1; k >= 0 && l[k].Hi == uint64(i) {
			l[k].Hi++
		} else {
			l = append(l, api.Range{Lo: uint64(i), Hi: uint64(i) + 1})
		}
	}
	return l
}

// both is a store, held against the book behind each call.
type both struct {
	store
	book *storeByBook
}

func newBoth(t *testing.T, m api.Manifest) both {
	t.Helper()
	return both{fresh(t, m), newBook(m)}
}

func (b both) held(what string) {
	b.t.Helper()
	n := len(b.book.came)
	for _, i := range append(nowhere(n), b.places()...) {
		text, e := b.book.piece(i)
		b.piece(i, text, e)
		path, e := b.book.proof(i)
		b.proof(i, path, e)
	}
	for _, most := range []int{math.MinInt, -1, 0, 1, 2, n / 2, n - 1, n, n + 1, math.MaxInt} {
		if l := b.s.Missing(most); !slices.Equal(l, b.book.missing(most)) {
			b.t.Errorf("Missing(%d): %v, want %v", most, l, b.book.missing(most))
		}
	}
	if b.book.done() {
		b.stands(n, true, strings.Join(b.book.parts(), ""), api.OK)
	} else {
		b.stands(len(b.book.parts()), false, "", missingErr)
	}
	if b.s.Manifest() != b.book.m {
		b.t.Errorf("Manifest: %v, want %v", b.s.Manifest(), b.book.m)
	}
	b.addsUp()
	if b.t.Failed() {
		b.t.Fatal(what)
	}
}

// places is the places of all pieces.
func (b both) places() []int {
	var l []int
	for i := range b.book.came {
		l = append(l, i)
	}
	return l
}

// addsUp holds that Have and Missing are all pieces together (P22.11).
func (c store) addsUp() {
	c.t.Helper()
	n := c.s.Have()
	for _, r := range c.s.Missing(math.MaxInt) {
		n += int(r.Hi - r.Lo)
	}
	if n != pieces.Count(c.s.Manifest()) {
		c.t.Errorf("Have and Missing are %d together, of %d", n, pieces.Count(c.s.Manifest()))
	}
}

func (b both) put(i int, data string, path []api.Sum) {
	b.t.Helper()
	was, want := b.book.put(i, data, path)
	if ok, e := b.s.Put(i, []byte(data), path); ok != was || e != want {
		b.t.Errorf("Put(%d, %.20q, %d digests): %v, %d, want %v, %d", i, data, len(path), ok, e, was, want)
	}
	b.held(fmt.Sprintf("Put(%d, %.20q, %d digests)", i, data, len(path)))
}

func (b both) mark(i int, data string) {
	b.t.Helper()
	was, want := b.book.mark(i, data)
	if ok, e := b.s.Mark(i, []byte(data)); ok != was || e != want {
		b.t.Errorf("Mark(%d, %.20q): %v, %d, want %v, %d", i, data, ok, e, was, want)
	}
	b.held(fmt.Sprintf("Mark(%d, %.20q)", i, data))
}

// near is a number about those from 0 to n - 1, most often one of them.
func (d *dice) near(n int) int {
	switch d.below(12) {
	case 0:
		return n
	case 1:
		return -1
	case 2:
		return d.one(math.MinInt, math.MaxInt, n+1, 1<<32)
	}
	return d.below(max(n, 1))
}

// spoilt is a text that was changed in one way or another.
func (d *dice) spoilt(data string) string {
	b := []byte(data)
	switch d.below(4) {
	case 0:
		return data + "x"
	case 1:
		return data[:len(data)/2]
	}
	if len(b) > 0 {
		b[d.below(len(b))] ^= 1 << d.below(8)
	}
	return string(b)
}

// spoiltPath is a path that was changed in one way or another.
func (d *dice) spoiltPath(path []api.Sum) []api.Sum {
	l := slices.Clone(path)
	switch k := d.below(max(len(l), 1)); {
	case len(l) == 0 || d.below(4) == 0:
		return append(l, d.sum())
	case d.below(3) == 0:
		return slices.Delete(l, k, k+1)
	case d.below(2) == 0:
		l[k] = turned(l[k], d.below(256))
	default:
		slices.Reverse(l)
	}
	return l
}

// call makes any call with a piece of a file, right or wrong.
func (d *dice) call(b both, parts []string) {
	b.t.Helper()
	i := d.near(len(parts))
	data, path := "x", d.sums(d.below(4))
	if i >= 0 && i < len(parts) {
		data, path = parts[i], pathByBook(leavesOf(parts), i)
	}
	switch d.below(8) {
	case 0:
		data = d.spoilt(data)
	case 1:
		path = d.spoiltPath(path)
	case 2:
		i = d.near(len(parts))
	case 3:
		data, path = d.spoilt(data), d.spoiltPath(path)
	}
	if d.below(8) == 0 {
		b.mark(i, data)
	} else {
		b.put(i, data, path)
	}
}

// P22.5 to P22.7, P22.11: any calls against a second reckoning.
func TestAnyCalls(t *testing.T) {
	d := dice(31)
	for range 150 {
		size, piece := d.below(30), 1+d.below(8)
		data := string(d.bytes(size))
		if d.below(4) == 0 { // pieces that are alike
			data = strings.Repeat("a", size)
		}
		b := newBoth(t, manifestOf("x", data, piece))
		b.held("New")
		parts := cutUp(data, piece)
		for range 2 + 2*len(parts) {
			d.call(b, parts)
		}
	}
}

// 0.3: two stores know nothing of one another.
func TestApart(t *testing.T) {
	run := func(beside bool) []string {
		d, e := dice(32), dice(33)
		one, two := string(d.bytes(20)), string(e.bytes(17))
		x, y := newBoth(t, manifestOf("x", one, 3)), newBoth(t, manifestOf("x", two, 3))
		var all []string
		for range 40 {
			d.call(x, cutUp(one, 3))
			if beside {
				e.call(y, cutUp(two, 3))
			}
			all = append(all, x.look())
		}
		return all
	}
	if !slices.Equal(run(true), run(false)) {
		t.Error("another store shows")
	}
}
