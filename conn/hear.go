package conn

import (
	"braid/api"
	"braid/wire"
)

// receive takes the bytes of a frame that came on a path.
func (s *side) receive(i int, b []byte) {
	p := s.at(i)
	if p == nil {
		return
	}
	f, bad := wire.Decode(b)
	if bad != api.OK || f.Path != i {
		return
	}
	if f.Kind == api.KindRst {
		s.HearReset(f.Token)
		return
	}
	s.shake(p, f)
	if !p.joined() {
		return
	}
	defer s.send()
	p.flow.Wake()
	s.hear(f)
}

// shake goes on with a path's handshake; frames that are none of it the Half does not answer.
func (s *side) shake(p *path, f api.Frame) {
	answer, ok := p.half.Hear(s.Clock, f)
	if !ok {
		return
	}
	s.Post(answer)
	if f.Kind == api.KindJoin {
		p.backup = f.Backup
	}
}

// hear plays what comes on a joined path, by its kind.
func (s *side) hear(f api.Frame) {
	plays := [api.NumKinds]func(api.Frame){
		api.KindData:   s.hearData,
		api.KindFin:    s.hearFin,
		api.KindProbe:  s.hearProbe,
		api.KindAck:    s.hearAck,
		api.KindDack:   s.hearDack,
		api.KindJoin:   s.hearNoMore,
		api.KindJoined: s.hearNoMore,
		api.KindProve:  s.hearNoMore,
		api.KindPrio:   s.hearPrio,
		api.KindGone:   s.hearGone,
	}
	plays[f.Kind](f)
}

func (s *side) hearData(f api.Frame) {
	_, bad := s.Recv.Take(f.Off, f.Data)
	s.answer(f, bad)
}

func (s *side) hearFin(f api.Frame) { s.answer(f, s.Recv.Fin(f.Off)) }

func (s *side) hearProbe(f api.Frame) { s.answer(f, api.OK) }

// answer answers a frame with a number. One that was refused is not acknowledged: it must come again.
func (s *side) answer(f api.Frame, refused api.Errno) {
	if refused == api.OK {
		seen := s.paths[f.Path].seen
		seen.Got(f.Num)
		s.Post(api.Frame{Kind: api.KindAck, Path: f.Path, Ranges: seen.Ranges()})
	}
	s.Dack(f.Path)
}

func (s *side) hearAck(f api.Frame) {
	heard := s.paths[f.Path].flow.Acked(s.Clock, f.Ranges)
	held := ofChunks(heard.Acked)
	for _, x := range held {
		s.Send.Held(f.Path, x.Off)
	}
	s.lose(f.Path, heard.Lost)
	s.tellGroup()
	s.group.Acked(f.Path, len(held))
	if heard.Cut {
		s.group.Cut(f.Path)
	}
}

func (s *side) hearDack(f api.Frame) { s.Send.Ack(f.Off, f.Edge) }

// hearNoMore is of the frames of a handshake, which the Half has heard.
func (s *side) hearNoMore(api.Frame) {}

func (s *side) hearPrio(f api.Frame) { s.paths[f.Path].backup = f.Backup }

func (s *side) hearGone(f api.Frame) {
	if s.mayLeave(f.Which) {
		s.abandon(f.Which)
	}
}
