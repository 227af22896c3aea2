package pieces_test

import (
	"slices"
	"testing"

	"braid/api"
	"braid/pieces"
)

// P22.12, 0.4: what the calls without a store are handed is not changed.
func TestHandedToFunctions(t *testing.T) {
	d := dice(51)
	for n := range 18 {
		l := d.sums(n)
		handSums(t, l, func(p []api.Sum) {
			if pieces.Root(p) != rootByBook(l) {
				t.Errorf("the root of %d", n)
			}
			for i := range p {
				handSums(t, pathByBook(l, i), func(path []api.Sum) {
					pieces.Leads(rootByBook(l), n, i, p[i], path)
					pieces.Leads(rootByBook(l), n+1, i, p[i], path)
				})
				pieces.Path(p, i)
			}
		})
	}
	handBytes(t, "abc", func(p []byte) { pieces.Leaf(p) })
	handBytes(t, "abcdefg", func(p []byte) {
		for piece := range 9 {
			pieces.Describe("x", p, piece)
		}
	})
	handBytes(t, string(laid(manifestOf("x", "abc", 3))), func(p []byte) { pieces.Decode(p) })
	handBytes(t, "BRP1", func(p []byte) { pieces.Decode(p) })
}

// P22.12: a path, and a manifest, share nothing with what was handed in.
func TestAnswersAreApart(t *testing.T) {
	d := dice(52)
	l := d.sums(7)
	want := pathByBook(l, 2)
	given := slices.Clone(l)
	path, _ := pieces.Path(given, 2)
	overwrite(given, api.Sum{0x55})
	if !slices.Equal(path, want) {
		t.Error("a path has memory of the row")
	}
	given = slices.Clone(l)
	path, _ = pieces.Path(given, 2)
	again, _ := pieces.Path(given, 2)
	overwrite(path, api.Sum{0x66})
	if !slices.Equal(given, l) || !slices.Equal(again, want) {
		t.Error("whoever writes into a path changes the row, or another path")
	}

	m := manifestOf("name", "abc", 3)
	b := laid(m)
	got, e := pieces.Decode(b)
	overwrite(b, 'z')
	if e != api.OK || got != m {
		t.Errorf("a manifest has memory of its bytes: %v", got)
	}
	b, _ = pieces.Encode(m)
	overwrite(b, 'z')
	if b, _ = pieces.Encode(m); !slices.Equal(b, laid(m)) {
		t.Error("Encode gives the same memory again")
	}
}

// P22.12: what a store is handed is neither changed nor kept.
func TestHandedToStores(t *testing.T) {
	const data = "abcdefg"
	m := manifestOf("x", data, 3)
	parts := cutUp(data, 3)
	leaves := leavesOf(parts)
	filled := []store{fresh(t, m), fresh(t, m), {t, nil}}
	for i, p := range parts {
		for range 2 { // the second time it is there
			handBytes(t, p, func(b []byte) {
				handSums(t, pathByBook(leaves, i), func(path []api.Sum) { filled[0].s.Put(i, b, path) })
				filled[1].s.Mark(i, b)
			})
		}
		handBytes(t, "???", func(b []byte) { // what is refused
			handSums(t, leaves, func(path []api.Sum) { filled[0].s.Put(i, b, path) })
			filled[1].s.Mark(i+7, b)
		})
	}
	handBytes(t, data, func(b []byte) {
		filled[2].s, _ = pieces.Full(m, b)
		pieces.Full(m, b[:4])
		pieces.Full(api.Manifest{Name: "x", Size: 7, Piece: 3}, b)
	})
	for _, s := range filled {
		s.stands(3, true, data, api.OK)
		for i, p := range parts {
			s.piece(i, p, api.OK)
			s.proof(i, pathByBook(leaves, i), api.OK)
		}
	}
}

// P22.12: what a store hands out is new memory, spare room too.
func TestHandedOut(t *testing.T) {
	for _, size := range []int{7, 3000} {
		data := text(size)
		piece := 3 + size/100
		m := manifestOf("x", data, piece)
		for _, s := range []store{full(t, m, data), fresh(t, m)} {
			if !s.s.Done() {
				s.s.Mark(1, []byte(data[piece:2*piece]))
				s.s.Mark(0, []byte(data[:piece]))
			}
			before := s.look()
			for i := range 3 {
				if b, e := s.s.Piece(i); e == api.OK {
					overwrite(b, 0x77)
				}
				if l, e := s.s.Proof(i); e == api.OK {
					overwrite(l, api.Sum{0x77})
				}
				overwrite(s.s.Missing(i), api.Range{Lo: 7, Hi: 77})
			}
			overwrite(s.s.Missing(1000), api.Range{Lo: 7, Hi: 77})
			if b, e := s.s.Data(); e == api.OK {
				overwrite(b, 0x77)
			}
			if s.look() != before {
				t.Errorf("whoever writes into what a store of %d bytes gave changes the store", size)
			}
		}
	}
}

// P22.12: no two answers share memory, and what was given stays as it is.
func TestGivenStays(t *testing.T) {
	d := dice(53)
	data := string(d.bytes(40))
	parts := cutUp(data, 3)
	b := newBoth(t, manifestOf("x", data, 3))
	var given, kept [][]byte
	var lists, listsKept [][]api.Range
	var paths, pathsKept [][]api.Sum
	for range 150 {
		d.call(b, parts)
		i := d.below(len(parts))
		p, _ := b.s.Piece(i)
		all, _ := b.s.Data()
		path, _ := b.s.Proof(i)
		miss := b.s.Missing(d.below(20))
		given, kept = append(given, p, all), append(kept, slices.Clone(p), slices.Clone(all))
		lists, listsKept = append(lists, miss), append(listsKept, slices.Clone(miss))
		paths, pathsKept = append(paths, path), append(pathsKept, slices.Clone(path))
	}
	if !slices.EqualFunc(given, kept, slices.Equal) || !slices.EqualFunc(lists, listsKept, slices.Equal) || !slices.EqualFunc(paths, pathsKept, slices.Equal) {
		t.Error("what was handed out has changed")
	}
}
