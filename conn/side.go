package conn

import (
	"braid/api"
	"braid/cong"
	"braid/ends"
	"braid/join"
	"braid/sched"
	"braid/subflow"
)

// side is what an End stands for. It is kept apart from the End, so that what the owner of the buffers can do is not handed out.
type side struct {
	*ends.Owner
	paths   []path
	group   *cong.Group
	sched   *sched.Sched
	mss     int
	retries int
}

func newSide(c api.Config, which int) (*side, api.Errno) {
	owner, bad := ends.New(c, which)
	if bad != api.OK {
		return nil, bad
	}
	own := which & 1
	s := &side{
		Owner:   owner,
		group:   cong.New(c.Paths),
		sched:   sched.New(kindOf(c.Sched), c.Weights, c.Picks[own]),
		mss:     c.Mss,
		retries: c.Retries,
	}
	for i := range c.Paths {
		s.paths = append(s.paths, path{
			half: join.New(own, i, c.Keys[own], c.Keys[1-own], c.Retries),
			flow: subflow.New(c.Retries),
			seen: subflow.NewSeen(),
		})
	}
	return s, api.OK
}

// kindOf is the scheduler that a configuration means; Single is none, but such a configuration may be.
func kindOf(kind int) int {
	if kind == api.Single {
		return api.MinRtt
	}
	return kind
}

// write accepts bytes: how many.
func (s *side) write(p []byte) (n int, bad api.Errno) {
	defer s.sendBehind(&bad)
	return s.Write(p)
}

// close ends this side's stream.
func (s *side) close() (bad api.Errno) {
	defer s.sendBehind(&bad)
	return s.Close()
}

// look is the side as Stat tells it.
func (s *side) look() api.Stat {
	stat := s.Stat()
	for i, p := range s.paths {
		srtt, known := p.flow.Srtt()
		stat.Paths = append(stat.Paths, api.PathStat{
			State:    p.half.State(),
			Backup:   p.backup,
			Strikes:  p.flow.Strikes(),
			Inflight: p.flow.Inflight(),
			Window:   s.group.Window(i),
			Known:    known,
			Srtt:     srtt,
			Rto:      p.flow.Rto(),
		})
	}
	return stat
}
