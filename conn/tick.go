package conn

import (
	"slices"

	"braid/api"
)

// tick lets the clock go on by so many ms, and looks at all timers once.
func (s *side) tick(ms int) {
	s.GoOn(ms)
	if s.Err != api.OK || s.Done() {
		return
	}
	defer s.send()
	for i := range s.paths {
		s.tickPath(i)
	}
	if !slices.ContainsFunc(s.paths, path.hopeful) {
		s.Break(api.ErrDead, s.joined()...)
	}
}

// tickPath looks at a path's timers.
func (s *side) tickPath(i int) {
	p := s.paths[i]
	if f, ok := p.half.Tick(s.Clock); ok {
		s.Post(f)
	}
	if !p.joined() {
		return
	}
	if l, fires := p.flow.Tick(s.Clock); fires {
		s.lose(i, l)
		s.tellGroup()
		s.group.Timeout(i)
	}
	if s.mustProbe(p) {
		s.number(api.Frame{Kind: api.KindProbe, Path: i})
	}
}

// mustProbe tells whether the peer is to be asked for a sign on a joined path.
func (s *side) mustProbe(p path) bool {
	if p.flow.Inflight() > 0 {
		return false
	}
	return p.flow.Dead() || s.Clock-p.flow.Last() >= s.While(p.flow.Rto())
}
