// Package ivset is layer 1: see shared/doc/01-ivset.md.
package ivset

import (
	"cmp"
	"iter"
	"slices"
	"sort"

	"braid/api"
)

// Set is a set of numbers, as stretches that neither overlap nor touch.
type Set struct {
	list []api.Range // the stretches, rising, none of them empty
}

// New is the set of all numbers of these ranges.
func New(l ...api.Range) *Set {
	rising := copied(l)
	// In this order each range meets the last stretch alone: however many come, none is moved.
	slices.SortFunc(rising, func(a, b api.Range) int { return cmp.Compare(a.Lo, b.Lo) })
	s := &Set{}
	for _, r := range rising {
		s.Add(r)
	}
	return s
}

// Add puts a range in: how many of its numbers are new.
func (s *Set) Add(r api.Range) uint64 {
	if empty(r) {
		return 0
	}
	fresh := r.Hi - r.Lo - s.common(r)
	from, to := s.touched(r)
	if from < to {
		r.Lo = min(r.Lo, s.list[from].Lo)
		r.Hi = max(r.Hi, s.list[to-1].Hi)
	}
	s.list = slices.Replace(s.list, from, to, r)
	return fresh
}

// Remove takes a range out: how many of its numbers were there.
func (s *Set) Remove(r api.Range) uint64 {
	from, to := s.overlapped(r)
	if from == to {
		return 0
	}
	gone := s.common(r)
	left := api.Range{Lo: s.list[from].Lo, Hi: r.Lo}
	right := api.Range{Lo: r.Hi, Hi: s.list[to-1].Hi}
	rest := make([]api.Range, 0, 2)
	if !empty(left) {
		rest = append(rest, left)
	}
	if !empty(right) {
		rest = append(rest, right)
	}
	s.list = slices.Replace(s.list, from, to, rest...)
	return gone
}

// Below takes all out that are less: how many these were.
func (s *Set) Below(x uint64) uint64 { return s.Remove(api.Range{Lo: 0, Hi: x}) }

// Has tells whether a number is there.
func (s *Set) Has(x uint64) bool { return s.Gap(x) != x }

// Covers tells whether all of a range is there.
func (s *Set) Covers(r api.Range) bool { return s.Gap(r.Lo) >= r.Hi }

// Gap is the first number from x on that is not there.
func (s *Set) Gap(x uint64) uint64 {
	i := s.firstFrom(x)
	if i < len(s.list) && s.list[i].Lo <= x {
		return s.list[i].Hi
	}
	return x
}

// Count is how many numbers are there.
func (s *Set) Count() uint64 {
	n := uint64(0)
	for _, r := range s.list {
		n += r.Hi - r.Lo
	}
	return n
}

// Len is how many stretches there are.
func (s *Set) Len() int { return len(s.list) }

// With is how many there would be behind Add.
func (s *Set) With(r api.Range) int {
	if empty(r) {
		return len(s.list)
	}
	from, to := s.touched(r)
	return len(s.list) - (to - from) + 1
}

// Missing is what of a range is not there, in stretches.
func (s *Set) Missing(r api.Range) []api.Range {
	var out []api.Range
	from, to := s.overlapped(r)
	for _, t := range s.list[from:to] {
		if r.Lo < t.Lo {
			out = append(out, api.Range{Lo: r.Lo, Hi: t.Lo})
		}
		r.Lo = t.Hi
	}
	if !empty(r) {
		out = append(out, r)
	}
	return out
}

// Ranges is the stretches, rising.
func (s *Set) Ranges() []api.Range { return copied(s.list) }

// All gives the stretches, rising.
func (s *Set) All() iter.Seq[api.Range] {
	return func(yield func(api.Range) bool) {
		for _, r := range s.list {
			if !yield(r) {
				return
			}
		}
	}
}

// Copy is a set of its own with the same numbers.
func (s *Set) Copy() *Set { return &Set{list: copied(s.list)} }

func empty(r api.Range) bool { return r.Hi <= r.Lo }

func copied(l []api.Range) []api.Range {
	out := make([]api.Range, len(l))
	copy(out, l)
	return out
}

// common is how many numbers of a range are there.
func (s *Set) common(r api.Range) uint64 {
	n := uint64(0)
	from, to := s.overlapped(r)
	for _, t := range s.list[from:to] {
		n += min(r.Hi, t.Hi) - max(r.Lo, t.Lo)
	}
	return n
}

// firstFrom is the place of the first stretch that has a number from x on.
func (s *Set) firstFrom(x uint64) int {
	return sort.Search(len(s.list), func(i int) bool { return s.list[i].Hi > x })
}

// overlapped is from which place on, and ahead of which, stretches share a number with a range.
func (s *Set) overlapped(r api.Range) (int, int) {
	from := s.firstFrom(r.Lo)
	if empty(r) {
		return from, from
	}
	return from, sort.Search(len(s.list), func(i int) bool { return s.list[i].Lo >= r.Hi })
}

// touched is the same of stretches that share a number with a range that is not empty, or lie right beside it: those that it makes one.
func (s *Set) touched(r api.Range) (int, int) {
	from := sort.Search(len(s.list), func(i int) bool { return s.list[i].Hi >= r.Lo })
	return from, sort.Search(len(s.list), func(i int) bool { return s.list[i].Lo > r.Hi })
}
