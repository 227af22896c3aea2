package conn

import (
	"braid/api"
	"braid/sched"
)

// sendBehind sends behind a call that was answered OK. One that was refused must not: a scheduler may count how often it is asked.
func (s *side) sendBehind(answer *api.Errno) {
	if *answer == api.OK {
		s.send()
	}
}

// send lets chunks go out as long as the scheduler decides for one.
func (s *side) send() {
	if s.Err != api.OK {
		return
	}
	v := s.view()
	for p, ok := s.sched.Next(v); ok; p, ok = s.sched.Next(v) {
		// What the guard drops has changed nothing: the view is as it was.
		if sched.Guard(v, s.Send, p) {
			s.depart(p)
			v = s.view()
		}
	}
}

// view is what the scheduler sees.
func (s *side) view() api.View {
	v := api.View{Edge: s.Send.Edge(), Mss: s.mss, Paths: make([]api.PathView, len(s.paths))}
	v.Want, v.Has = s.Send.Want()
	for i, p := range s.paths {
		x := &v.Paths[i]
		x.Usable, x.Backup = p.usable(), p.backup
		x.Srtt, x.Known = p.flow.Srtt()
		x.Window, x.Inflight = s.group.Frames(i), p.flow.Inflight()
		x.Next, x.Has = s.Send.Next(i)
	}
	return v
}

// depart lets a chunk go out.
func (s *side) depart(p api.Pick) {
	f := api.Frame{Kind: api.KindData, Path: p.Path, Off: p.Off, Data: s.Send.Bytes(p.Off)}
	if p.Len == 0 {
		f.Kind = api.KindFin // no other chunk is without bytes
	}
	s.number(f)
	s.Send.Sent(p.Path, p.Off)
}

// number lets a frame go out with the next number of its path.
func (s *side) number(f api.Frame) {
	f.Num = s.paths[f.Path].flow.Send(s.Clock, f.Kind, f.Off, len(f.Data))
	s.Post(f)
}
