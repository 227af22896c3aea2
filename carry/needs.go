package carry

import "braid/api"

// need is a thing that both worlds must agree in.
type need struct {
	lacks func() bool // they do not
	bring func() bool // comes one step nearer; false, if there is no such step
}

// agree brings the made world to where the given one is. A turn is one step of each need: a chunk may have to wait for a DACK, which may have to wait for another chunk.
func (c *carrier) agree() {
	for c.turn() {
	}
}

func (c *carrier) turn() bool {
	moved := false
	for _, n := range c.needs {
		if n.lacks() && n.bring() {
			moved = true
		}
	}
	return moved
}

// listNeeds is all of them, in their order.
func (c *carrier) listNeeds() []need {
	var l []need
	for side := range c.goal {
		l = append(l, c.learns(side), c.takes(side))
	}
	for side := range c.goal {
		l = append(l, c.isReset(side))
	}
	return l
}

// learns is that a side knows as much of what its peer has, and of its peer's edge. The DACKs lie in the order of what they tell.
func (c *carrier) learns(side int) need {
	return need{
		lacks: func() bool {
			goal, now := c.goal[side], c.made.Stat(side)
			return goal.Err == api.OK && (now.Acked < goal.Acked || now.Edge < goal.Edge)
		},
		bring: func() bool {
			return deliver(c, peer(side), noMoreThan{c.goal[side].Acked, c.goal[side].Edge})
		},
	}
}

// takes is that a side has as much of its peer's stream. The ACK goes back at once, so that the path has room for what is next.
func (c *carrier) takes(side int) need {
	return need{
		lacks: func() bool {
			return c.goal[side].Err == api.OK && c.made.Stat(side).Next < c.goal[side].Next
		},
		bring: func() bool {
			return deliver(c, peer(side), chunkAt(c.made.Stat(side).Next)) && deliver(c, side, ofKind(api.KindAck))
		},
	}
}

// isReset is that a side has heard that its peer has ended.
func (c *carrier) isReset(side int) need {
	return need{
		lacks: func() bool {
			return c.goal[side].Err == api.ErrReset && c.made.Stat(side).Err == api.OK
		},
		bring: func() bool {
			if c.putOff(peer(side)) {
				c.end(peer(side))
			}
			return deliver(c, peer(side), ofKind(api.KindRst))
		},
	}
}

func peer(side int) int { return 1 - side }
