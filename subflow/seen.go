package subflow

import (
	"braid/api"
	"braid/ivset"
)

// Seen is the receiving half of a path: the numbers that have come.
type Seen struct{ ivset.Set }

// NewSeen is one that has seen nothing.
func NewSeen() *Seen { return &Seen{Set: *ivset.New()} }

// Got notes a number: is it new?
func (s *Seen) Got(num uint64) bool {
	// Above the greatest number stands 0: its range is empty, and nothing is new.
	fresh := s.Add(api.Range{Lo: num, Hi: num + 1}) > 0
	for s.Len() > api.MaxSeen {
		s.Remove(s.Set.Ranges()[0])
	}
	return fresh
}

// Ranges is what is told of them.
func (s *Seen) Ranges() []api.Range {
	l := s.Set.Ranges()
	return l[max(len(l)-api.MaxRanges, 0):]
}
