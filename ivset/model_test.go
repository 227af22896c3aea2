package ivset_test

import (
	"slices"
	"testing"

	"braid/api"
	"braid/ivset"
)

// model is a set the plain way: which of the numbers from base on are there.
type model struct {
	base uint64
	has  []bool
}

func newModel(base uint64, size int) *model { return &model{base, make([]bool, size)} }

func (m *model) clone() *model { return &model{m.base, slices.Clone(m.has)} }

// mark puts a range in or takes it out: of how many numbers that was news.
func (m *model) mark(r api.Range, in bool) uint64 {
	n := uint64(0)
	for i := range m.has {
		if x := m.base + uint64(i); r.Lo <= x && x < r.Hi && m.has[i] != in {
			m.has[i] = in
			n++
		}
	}
	return n
}

// ranges is the stretches of what is there (or is not) within a range.
func (m *model) ranges(within api.Range, there bool) []api.Range {
	var l []api.Range
	open := false
	for i, has := range m.has {
		x := m.base + uint64(i)
		if has != there || x < within.Lo || x >= within.Hi {
			open = false
		} else if open {
			l[len(l)-1].Hi++
		} else {
			l = append(l, span(x, x+1))
			open = true
		}
	}
	return l
}

func (m *model) all() api.Range { return span(m.base, m.base+uint64(len(m.has))) }

func length(l []api.Range) uint64 {
	n := uint64(0)
	for _, r := range l {
		n += r.Hi - r.Lo
	}
	return n
}

// agree holds a set against its model by all that looks and changes nothing.
func agree(t *testing.T, s *ivset.Set, m *model) {
	t.Helper()
	l := m.ranges(m.all(), true)
	if got := s.Ranges(); !slices.Equal(got, l) {
		t.Fatalf("Ranges: %v, want %v", got, l)
	}
	if got := slices.Collect(s.All()); !slices.Equal(got, l) {
		t.Fatalf("All: %v, want %v", got, l)
	}
	if s.Len() != len(l) || s.Count() != length(l) {
		t.Fatalf("of %v: Len %d, Count %d", l, s.Len(), s.Count())
	}
	for i := range m.has {
		agreeAt(t, s, m, i)
	}
}

func agreeAt(t *testing.T, s *ivset.Set, m *model, i int) {
	t.Helper()
	x := m.base + uint64(i)
	gap := x
	for k := i; k < len(m.has) && m.has[k]; k++ {
		gap++
	}
	if s.Has(x) != m.has[i] || s.Gap(x) != gap {
		t.Fatalf("of %v at %d: Has %v, Gap %d, want %d", s.Ranges(), x, s.Has(x), s.Gap(x), gap)
	}
	if his := func(r api.Range) bool { return r.Hi == gap }; gap != x && !slices.ContainsFunc(s.Ranges(), his) {
		t.Fatalf("Gap(%d) is %d, and no stretch of %v ends there", x, gap, s.Ranges())
	}
}

// agreeOn holds the answers of all calls that take a range against the model's.
func agreeOn(t *testing.T, s *ivset.Set, m *model, r api.Range) {
	t.Helper()
	missing, there := m.ranges(r, false), m.ranges(r, true)
	if got := s.Missing(r); !slices.Equal(got, missing) {
		t.Fatalf("of %v Missing(%v): %v, want %v", s.Ranges(), r, got, missing)
	}
	if got := s.Covers(r); got != (len(missing) == 0) {
		t.Fatalf("of %v Covers(%v): %v", s.Ranges(), r, got)
	}
	more, less := m.clone(), m.clone()
	more.mark(r, true)
	less.mark(r, false)
	if got := s.With(r); got != len(more.ranges(m.all(), true)) {
		t.Fatalf("of %v With(%v): %d", s.Ranges(), r, got)
	}
	added, removed := s.Copy(), s.Copy()
	if got := added.Add(r); got != length(missing) || added.Count() != s.Count()+got {
		t.Fatalf("of %v Add(%v): %d, Count %d", s.Ranges(), r, got, added.Count())
	}
	agree(t, added, more)
	if got := removed.Remove(r); got != length(there) || removed.Count() != s.Count()-got {
		t.Fatalf("of %v Remove(%v): %d, Count %d", s.Ranges(), r, got, removed.Count())
	}
	agree(t, removed, less)
	if added.Remove(r); !slices.Equal(added.Ranges(), removed.Ranges()) {
		t.Fatalf("of %v behind Add, Remove of %v: %v", s.Ranges(), r, added.Ranges())
	}
	agree(t, s, m)
}

// bases are where the small worlds of these tests begin: at 0, somewhere, and so that they end at the last number of all.
func bases(size int) []uint64 { return []uint64{0, 1 << 40, last - uint64(size)} }

// P1.2 to P1.6, P1.8, P1.9: every set of six numbers and every range on them, the turned ones too.
func TestEverySmallSet(t *testing.T) {
	const size = 6
	for _, base := range bases(size) {
		for bits := range 1 << size {
			m := newModel(base, size)
			s := ivset.New()
			for i := range uint64(size) {
				if bits>>i&1 == 1 {
					s.Add(span(base+i, base+i+1))
					m.has[i] = true
				}
			}
			agree(t, s, m)
			for lo := range uint64(size + 1) {
				for hi := range uint64(size + 1) {
					agreeOn(t, s, m, span(base+lo, base+hi))
				}
			}
		}
	}
}

// dice is a row of numbers that is the same each time.
type dice uint64

func (d *dice) below(n int) int {
	*d = *d*6364136223846793005 + 1442695040888963407
	return int(uint64(*d) >> 33 % uint64(n))
}

func (d *dice) span(m *model, longest int) api.Range {
	lo := d.below(len(m.has) + 1)
	hi := min(lo-1+d.below(longest), len(m.has))
	return span(m.base+uint64(lo), m.base+uint64(max(hi, 0)))
}

// The same in long rows of calls, with many stretches.
func TestLongRows(t *testing.T) {
	const size = 150
	d := dice(1)
	for _, base := range bases(size) {
		for _, longest := range []int{4, 20, size + 1} {
			m := newModel(base, size)
			s := ivset.New()
			for range 400 {
				r := d.span(m, longest)
				agreeOn(t, s, m, r)
				switch d.below(5) {
				case 0, 1, 2:
					s.Add(r)
					m.mark(r, true)
				case 3:
					s.Remove(r)
					m.mark(r, false)
				case 4:
					x := base + uint64(d.below(size/8))
					if got, wanted := s.Below(x), m.mark(span(0, x), false); got != wanted {
						t.Fatalf("Below(%d): %d, want %d", x, got, wanted)
					}
				}
				agree(t, s, m)
			}
		}
	}
}

// P1.1, P1.7: however numbers come and however they are cut, the stretches are the same.
func TestOneForm(t *testing.T) {
	const size = 40
	d := dice(7)
	for _, base := range bases(size) {
		for range 300 {
			m := newModel(base, size)
			var l []api.Range
			for range d.below(12) {
				r := d.span(m, 9)
				l = append(l, r)
				m.mark(r, true)
			}
			agree(t, ivset.New(l...), m)
			agree(t, ivset.New(shuffled(&d, cut(&d, l))...), m)
			agree(t, oneByOne(shuffled(&d, cut(&d, l))), m)
			agree(t, outOfAll(m), m)
		}
	}
}

// cut cuts each range in two, somewhere; one of the halves may be empty, and some come twice.
func cut(d *dice, l []api.Range) []api.Range {
	var out []api.Range
	for _, r := range l {
		if r.Hi <= r.Lo {
			continue
		}
		at := r.Lo + uint64(d.below(int(r.Hi-r.Lo)+1))
		out = append(out, span(r.Lo, at), span(at, r.Hi))
		if d.below(3) == 0 {
			out = append(out, span(r.Lo, at))
		}
	}
	return out
}

func shuffled(d *dice, l []api.Range) []api.Range {
	for i := range l {
		k := d.below(i + 1)
		l[i], l[k] = l[k], l[i]
	}
	return l
}

func oneByOne(l []api.Range) *ivset.Set {
	s := ivset.New()
	for _, r := range l {
		s.Add(r)
	}
	return s
}

// outOfAll takes away what the model has not, from a set that had all.
func outOfAll(m *model) *ivset.Set {
	s := ivset.New(m.all())
	for i, has := range m.has {
		if x := m.base + uint64(i); !has {
			s.Remove(span(x, x+1))
		}
	}
	return s
}
