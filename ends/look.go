package ends

import "braid/api"

// Done tells whether the peer has all of this side's stream, and this side all of the peer's, their ends too.
func (o *Owner) Done() bool { return o.Send.Done() && endTaken(o.Recv.State()) }

func endTaken(s api.ReasmState) bool { return s.Ends && s.Fin == s.Gap }

// While is how long nothing was sent on a path when it is probed; rto is how long one would wait for an answer there.
func (o *Owner) While(rto uint64) uint64 {
	if o.waits() {
		return min(api.Quiet, rto)
	}
	return api.Quiet
}

// waits tells whether the peer has not told yet that it has all of this side's stream.
func (o *Owner) waits() bool {
	return o.Send.Acked() < o.Send.End() || o.Send.Closed() && !o.Send.Done()
}

// Stat looks at the side; its Paths are left to the kind of end.
func (o *Owner) Stat() api.Stat {
	r := o.Recv.State()
	stored, holes := lying(r)
	return api.Stat{
		Err:    o.Err,
		Closed: o.Send.Closed(),
		Done:   o.Done(),
		Clock:  o.Clock,
		Acked:  o.Send.Acked(),
		High:   o.Send.High(),
		End:    o.Send.End(),
		Edge:   o.Send.Edge(),
		Free:   o.Send.Free(),
		Next:   o.Recv.Next(),
		Own:    o.Recv.Edge(),
		Ready:  int(r.Gap - r.Read),
		Stored: stored,
		Holes:  holes,
	}
}

// lying is how many bytes lie in a receiving buffer, and in how many stretches that are not next.
func lying(r api.ReasmState) (stored, holes int) {
	for _, x := range r.Ranges {
		stored += int(x.Hi - x.Lo)
		if x.Lo != r.Read {
			holes++
		}
	}
	return stored, holes
}
