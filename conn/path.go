package conn

import (
	"slices"

	"braid/api"
	"braid/join"
	"braid/subflow"
)

// path is one of the connection's paths, as this side has it.
type path struct {
	half   *join.Half
	flow   *subflow.Flow
	seen   *subflow.Seen
	backup bool // it is for want of others alone
}

func (p path) joined() bool { return p.half.State() == join.Joined }

func (p path) usable() bool { return p.joined() && !p.flow.Dead() }

// hopeful tells whether it is joined and not gone: while one path is, the side lives.
func (p path) hopeful() bool { return p.joined() && !p.flow.Gone() }

// at is the path of that number; nil, if there is none. A side in error has none to do anything with.
func (s *side) at(i int) *path {
	if s.Err != api.OK || i < 0 || i >= len(s.paths) {
		return nil
	}
	return &s.paths[i]
}

// joined is the numbers of the paths that are joined, rising. There is always one: path 0 is joined at first, and the last one is never left.
func (s *side) joined() []int {
	var l []int
	for i, p := range s.paths {
		if p.joined() {
			l = append(l, i)
		}
	}
	return l
}

// bestPath is where a frame goes out that belongs to no path.
func (s *side) bestPath() int {
	if i := slices.IndexFunc(s.paths, path.usable); i >= 0 {
		return i
	}
	return s.joined()[0]
}

// ask asks for a path.
func (s *side) ask(i int, backup bool) {
	p := s.at(i)
	if p == nil {
		return
	}
	if f, ok := p.half.Start(s.Clock, backup); ok {
		s.Post(f)
		p.backup = backup
	}
}

// tellPrio tells the peer whether a path is for want of others alone. What the peer has said of it to this side stays.
func (s *side) tellPrio(i int, backup bool) {
	if p := s.at(i); p != nil && p.joined() {
		s.Post(api.Frame{Kind: api.KindPrio, Path: i, Backup: backup})
	}
}

// leave leaves a path, and tells the peer on one that is left to it.
func (s *side) leave(i int) {
	if !s.mayLeave(i) {
		return
	}
	defer s.send()
	s.abandon(i)
	s.Post(api.Frame{Kind: api.KindGone, Path: s.joined()[0], Which: i})
}

// mayLeave tells whether a path is joined, and not the only one.
func (s *side) mayLeave(i int) bool {
	p := s.at(i)
	return p != nil && p.joined() && len(s.joined()) > 1
}

// abandon is how a path is left, whoever has said it.
func (s *side) abandon(i int) {
	p := &s.paths[i]
	p.half.Leave()
	s.lose(i, p.flow.Items())
	p.flow = subflow.New(s.retries)
}

// lose lets chunks go out again that were under way on a path.
func (s *side) lose(i int, l []api.Item) {
	for _, x := range ofChunks(l) {
		s.Send.Lost(i, x.Off)
	}
}

// ofChunks is the items that are no probes: the sending buffer knows these alone.
func ofChunks(l []api.Item) []api.Item {
	return slices.DeleteFunc(l, func(x api.Item) bool { return x.Kind == api.KindProbe })
}

// tellGroup tells the windows which paths are usable, and how quick they are: their steps hang on that.
func (s *side) tellGroup() {
	for i, p := range s.paths {
		s.group.Take(i, p.usable())
		if srtt, known := p.flow.Srtt(); known {
			s.group.Rtt(i, srtt)
		}
	}
}
