package ivset_test

import (
	"slices"
	"testing"

	"braid/api"
	"braid/ivset"
)

const last = 1<<64 - 1

func span(lo, hi uint64) api.Range { return api.Range{Lo: lo, Hi: hi} }

// spans takes the bounds of ranges two by two.
func spans(bounds ...uint64) []api.Range {
	var l []api.Range
	for i := 0; i+1 < len(bounds); i += 2 {
		l = append(l, span(bounds[i], bounds[i+1]))
	}
	return l
}

func wantRanges(t *testing.T, what string, got []api.Range, bounds ...uint64) {
	t.Helper()
	if !slices.Equal(got, spans(bounds...)) {
		t.Errorf("%s: %v, want %v", what, got, spans(bounds...))
	}
}

func want[T comparable](t *testing.T, what string, got, wanted T) {
	t.Helper()
	if got != wanted {
		t.Errorf("%s: %v, want %v", what, got, wanted)
	}
}

// P1.1
func TestNewTakesRangesInAnyOrder(t *testing.T) {
	for _, c := range []struct {
		name       string
		given, set []api.Range
	}{
		{"none", nil, nil},
		{"one", spans(2, 5), spans(2, 5)},
		{"touching, out of order", spans(3, 5, 7, 9, 5, 6), spans(3, 6, 7, 9)},
		{"falling", spans(20, 21, 10, 11, 0, 1), spans(0, 1, 10, 11, 20, 21)},
		{"overlapping", spans(4, 9, 2, 6, 8, 12), spans(2, 12)},
		{"one within another", spans(0, 100, 5, 6, 40, 100, 0, 1), spans(0, 100)},
		{"the same again", spans(1, 2, 1, 2, 1, 2), spans(1, 2)},
		{"the same beginning", spans(5, 6, 5, 9, 5, 7), spans(5, 9)},
		{"empty ones", spans(0, 0, 9, 2, last, 0, last, last, 7, 7), nil},
		{"empty ones between", spans(6, 6, 1, 3, 9, 2, 3, 3, 5, 6), spans(1, 3, 5, 6)},
		{"the greatest set", spans(0, last), spans(0, last)},
		{"the greatest set in two", spans(1<<63, last, 0, 1<<63), spans(0, last)},
	} {
		if got := ivset.New(c.given...).Ranges(); !slices.Equal(got, c.set) {
			t.Errorf("%s: New(%v): %v, want %v", c.name, c.given, got, c.set)
		}
	}
}

func TestNewOfVeryMany(t *testing.T) {
	const n = 200000
	l := make([]api.Range, n)
	for i := range l {
		l[i] = span(uint64(n-i)*2, uint64(n-i)*2+1)
	}
	s := ivset.New(l...)
	want(t, "Len", s.Len(), n)
	want(t, "Count", s.Count(), n)
	want(t, "Add of all", s.Add(span(0, 2*n+2)), n+2)
	want(t, "Len behind it", s.Len(), 1)
}

// P1.2
func TestAddTellsWhatIsNew(t *testing.T) {
	s := ivset.New()
	for _, c := range []struct {
		r     api.Range
		fresh uint64
		set   []api.Range
	}{
		{span(10, 20), 10, spans(10, 20)},
		{span(10, 20), 0, spans(10, 20)},
		{span(12, 15), 0, spans(10, 20)},
		{span(15, 25), 5, spans(10, 25)},
		{span(5, 10), 5, spans(5, 25)},
		{span(25, 26), 1, spans(5, 26)},
		{span(0, 3), 3, spans(0, 3, 5, 26)},
		{span(30, 31), 1, spans(0, 3, 5, 26, 30, 31)},
		{span(9, 9), 0, spans(0, 3, 5, 26, 30, 31)},
		{span(40, 28), 0, spans(0, 3, 5, 26, 30, 31)},
		{span(3, 5), 2, spans(0, 26, 30, 31)},
		{span(20, 40), 13, spans(0, 40)},
		{span(last-1, last), 1, spans(0, 40, last-1, last)},
		{span(last, last), 0, spans(0, 40, last-1, last)},
		{span(last, 0), 0, spans(0, 40, last-1, last)},
		{span(0, last), last - 41, spans(0, last)},
	} {
		if got := s.Add(c.r); got != c.fresh {
			t.Errorf("Add(%v): %d, want %d", c.r, got, c.fresh)
		}
		if got := s.Ranges(); !slices.Equal(got, c.set) {
			t.Fatalf("behind Add(%v): %v, want %v", c.r, got, c.set)
		}
	}
}

func TestRemoveTellsWhatWasThere(t *testing.T) {
	s := ivset.New(span(0, last))
	for _, c := range []struct {
		r    api.Range
		gone uint64
		set  []api.Range
	}{
		{span(50, last), last - 50, spans(0, 50)},
		{span(50, last), 0, spans(0, 50)},
		{span(10, 20), 10, spans(0, 10, 20, 50)},
		{span(10, 20), 0, spans(0, 10, 20, 50)},
		{span(5, 5), 0, spans(0, 10, 20, 50)},
		{span(45, 3), 0, spans(0, 10, 20, 50)},
		{span(30, 31), 1, spans(0, 10, 20, 30, 31, 50)},
		{span(8, 32), 13, spans(0, 8, 32, 50)},
		{span(49, 90), 1, spans(0, 8, 32, 49)},
		{span(32, 33), 1, spans(0, 8, 33, 49)},
		{span(33, 49), 16, spans(0, 8)},
		{span(last-1, last), 0, spans(0, 8)},
		{span(0, last), 8, nil},
		{span(0, last), 0, nil},
	} {
		if got := s.Remove(c.r); got != c.gone {
			t.Errorf("Remove(%v): %d, want %d", c.r, got, c.gone)
		}
		if got := s.Ranges(); !slices.Equal(got, c.set) {
			t.Fatalf("behind Remove(%v): %v, want %v", c.r, got, c.set)
		}
	}
}

func TestBelow(t *testing.T) {
	s := ivset.New(spans(0, 2, 5, 9, 12, 20)...)
	want(t, "Below(0)", s.Below(0), 0)
	wantRanges(t, "behind Below(0)", s.Ranges(), 0, 2, 5, 9, 12, 20)
	want(t, "Below(1)", s.Below(1), 1)
	wantRanges(t, "behind Below(1)", s.Ranges(), 1, 2, 5, 9, 12, 20)
	want(t, "Below(7)", s.Below(7), 3)
	wantRanges(t, "behind Below(7)", s.Ranges(), 7, 9, 12, 20)
	want(t, "Below(12)", s.Below(12), 2)
	wantRanges(t, "behind Below(12)", s.Ranges(), 12, 20)
	want(t, "Below(last)", s.Below(last), 8)
	want(t, "Len", s.Len(), 0)
	all := ivset.New(span(0, last))
	want(t, "Below(last) of the greatest set", all.Below(last), last)
	want(t, "its Count", all.Count(), 0)
}

// P1.3
func TestHasCoversGap(t *testing.T) {
	s := ivset.New(spans(0, 1, 3, 4, 6, 9, last-2, last)...)
	for _, c := range []struct{ x, gap uint64 }{
		{0, 1}, {1, 1}, {2, 2}, {3, 4}, {4, 4}, {5, 5}, {6, 9}, {7, 9}, {8, 9}, {9, 9},
		{last - 3, last - 3}, {last - 2, last}, {last - 1, last}, {last, last},
	} {
		want(t, "Gap", s.Gap(c.x), c.gap)
		want(t, "Has", s.Has(c.x), c.gap != c.x)
	}
	for _, r := range spans(6, 9, 6, 7, 8, 9, 0, 1, last-2, last, 8, 8, 2, 2, 9, 1, last, last, last, 0) {
		if !s.Covers(r) {
			t.Errorf("Covers(%v) is false", r)
		}
	}
	for _, r := range spans(3, 7, 5, 6, 6, 10, 5, 9, 0, 2, 9, 10, 0, last, last-3, last) {
		if s.Covers(r) {
			t.Errorf("Covers(%v) is true", r)
		}
	}
	if !ivset.New(span(0, last)).Covers(span(0, last)) {
		t.Error("the greatest set does not cover itself")
	}
}

// P1.4
func TestCountLenWith(t *testing.T) {
	e := ivset.New()
	if e.Count() != 0 || e.Len() != 0 || e.With(span(1, 2)) != 1 || e.With(span(2, 2)) != 0 {
		t.Error("the empty set")
	}
	all := ivset.New(span(0, last))
	if all.Count() != last || all.Len() != 1 || all.With(span(7, 8)) != 1 || all.Has(last) {
		t.Error("the greatest set")
	}
	s := ivset.New(spans(3, 4, 6, 9, 20, last)...)
	want(t, "Count", s.Count(), last-20+4)
	want(t, "Len", s.Len(), 3)
	for _, c := range []struct {
		r api.Range
		n int
	}{
		{span(4, 6), 2}, {span(4, 5), 3}, {span(5, 6), 3}, {span(0, 2), 4}, {span(0, 3), 3}, {span(10, 19), 4},
		{span(9, 20), 2}, {span(3, 20), 1}, {span(7, 8), 3}, {span(0, last), 1}, {span(last-1, last), 3},
		{span(15, 15), 3}, {span(15, 2), 3}, {span(last, 0), 3},
	} {
		if got := s.With(c.r); got != c.n {
			t.Errorf("With(%v): %d, want %d", c.r, got, c.n)
		}
	}
	wantRanges(t, "With changes something", s.Ranges(), 3, 4, 6, 9, 20, last)
}

// P1.5
func TestMissing(t *testing.T) {
	s := ivset.New(spans(3, 4, 6, 9)...)
	wantRanges(t, "around all", s.Missing(span(0, 12)), 0, 3, 4, 6, 9, 12)
	wantRanges(t, "within a stretch", s.Missing(span(6, 9)))
	wantRanges(t, "within a gap", s.Missing(span(4, 5)), 4, 5)
	wantRanges(t, "from a stretch to a stretch", s.Missing(span(3, 7)), 4, 6)
	wantRanges(t, "from a gap to a gap", s.Missing(span(5, 10)), 5, 6, 9, 10)
	wantRanges(t, "behind all", s.Missing(span(9, last)), 9, last)
	wantRanges(t, "empty", s.Missing(span(5, 5)))
	wantRanges(t, "empty, within a stretch", s.Missing(span(7, 7)))
	wantRanges(t, "turned round", s.Missing(span(12, 0)))
	wantRanges(t, "of the empty set", ivset.New().Missing(span(0, last)), 0, last)
	wantRanges(t, "of the greatest set", ivset.New(span(0, last)).Missing(span(0, last)))
	wantRanges(t, "Missing changes something", s.Ranges(), 3, 4, 6, 9)
}

func TestAllLooksWhenItIsRangedOver(t *testing.T) {
	s := ivset.New(spans(3, 4, 6, 9)...)
	all := s.All()
	s.Add(span(20, 21))
	wantRanges(t, "All", slices.Collect(all), 3, 4, 6, 9, 20, 21)
	s.Remove(span(0, 7))
	wantRanges(t, "All, ranged over again", slices.Collect(all), 7, 9, 20, 21)
	s.Below(last)
	wantRanges(t, "All of nothing", slices.Collect(all))
}

func TestAllStopsEarly(t *testing.T) {
	s := ivset.New(spans(3, 4, 6, 9, 20, 21)...)
	for most := 1; most <= 3; most++ {
		var got []api.Range
		s.All()(func(r api.Range) bool {
			got = append(got, r)
			return len(got) < most
		})
		if !slices.Equal(got, s.Ranges()[:most]) {
			t.Errorf("stopped at %d: %v", most, got)
		}
	}
}

// P1.6
func TestCopyIsApart(t *testing.T) {
	s := ivset.New(spans(3, 6, 8, 9)...)
	c := s.Copy()
	wantRanges(t, "Copy", c.Ranges(), 3, 6, 8, 9)
	c.Remove(span(4, 5))
	c.Add(span(30, 40))
	wantRanges(t, "the set behind the copy's calls", s.Ranges(), 3, 6, 8, 9)
	s.Below(9)
	s.Add(span(100, 101))
	wantRanges(t, "the copy behind the set's calls", c.Ranges(), 3, 4, 5, 6, 8, 9, 30, 40)
	wantRanges(t, "the set", s.Ranges(), 100, 101)
	e := ivset.New().Copy()
	e.Add(span(1, 2))
	wantRanges(t, "a copy of the empty set", e.Ranges(), 1, 2)
}

// Were the copy's list cut out of the set's, the one would write into room that the other one uses.
func TestCopyOfASetWithSpareRoom(t *testing.T) {
	s := ivset.New(spans(0, 1, 2, 3, 4, 5, 6, 7, 8, 9)...)
	s.Remove(span(4, 9))
	c := s.Copy()
	s.Add(span(10, 11))
	c.Add(span(20, 21))
	wantRanges(t, "the set", s.Ranges(), 0, 1, 2, 3, 10, 11)
	wantRanges(t, "the copy", c.Ranges(), 0, 1, 2, 3, 20, 21)
}

// 0.4
func TestListsThatAreHandedIn(t *testing.T) {
	room := spans(8, 9, 5, 6, 5, 7, 1, 1, 50, 60, 40, 45)
	before := slices.Clone(room)
	s := ivset.New(room[:4]...)
	s.Add(span(6, 8))
	s.Add(span(100, 200))
	if !slices.Equal(room, before) {
		t.Errorf("what was handed in is changed: %v, was %v", room, before)
	}
	for i := range room {
		room[i] = span(0, 1000)
	}
	wantRanges(t, "what was handed in is kept", s.Ranges(), 5, 9, 100, 200)

	one := spans(3, 4)
	k := ivset.New(one...)
	k.Add(span(4, 9))
	one[0] = span(70, 80)
	wantRanges(t, "a list of one is kept", k.Ranges(), 3, 9)
}

// scribble writes over a list that was handed out, its spare room too.
func scribble(l []api.Range) {
	l = l[:cap(l)]
	for i := range l {
		l[i] = span(77, 777)
	}
}

func TestListsThatAreHandedOut(t *testing.T) {
	s := ivset.New(spans(3, 4, 6, 9, 20, 30, 40, 50)...)
	s.Remove(span(35, 60))
	first, second := s.Ranges(), s.Ranges()
	scribble(first)
	wantRanges(t, "Ranges, asked for ahead of it", second, 3, 4, 6, 9, 20, 30)
	m, n := s.Missing(span(0, 25)), s.Missing(span(0, 25))
	scribble(m)
	wantRanges(t, "Missing, asked for ahead of it", n, 0, 3, 4, 6, 9, 20)
	s.Add(span(60, 61))
	wantRanges(t, "a list that was handed out is changed", second, 3, 4, 6, 9, 20, 30)
	wantRanges(t, "the set", s.Ranges(), 3, 4, 6, 9, 20, 30, 60, 61)
}

// 0.3
func TestTwoSetsKnowNothingOfOneAnother(t *testing.T) {
	l := spans(1, 2, 5, 9)
	a, b := ivset.New(l...), ivset.New(l...)
	a.Add(span(2, 5))
	b.Remove(span(6, 7))
	wantRanges(t, "the one", a.Ranges(), 1, 9)
	wantRanges(t, "the other one", b.Ranges(), 1, 2, 5, 6, 7, 9)
}
