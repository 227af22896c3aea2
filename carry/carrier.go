package carry

import (
	"braid/api"
	"braid/harness"
)

// theWay is the path that all frames of the made script are delivered on: it is joined from the beginning.
const theWay = 0

// carrier plays two worlds side by side: the given script's, and the one of the script that is made to have the same answers.
type carrier struct {
	given   *harness.World
	made    *harness.World
	script  api.Script    // what the made world has done up to now
	goal    [2]api.Stat   // how the sides of the given world stand
	late    [2][]api.Step // calls that are put off
	ended   [2]bool       // the side has come to its own end in the made world too
	retries int
	needs   []need
}

// newCarrier is one of two configurations that may be, in whose worlds nothing has happened yet.
func newCarrier(from, to api.Config) *carrier {
	given, _ := harness.New(from)
	made, _ := harness.New(to)
	c := &carrier{given: given, made: made, script: api.Script{Config: to}, retries: to.Retries}
	c.needs = c.listNeeds()
	return c
}

// follow does a step in the given world, and brings the made one to where it is then.
func (c *carrier) follow(s api.Step) {
	c.given.Do(s)
	c.goal = [2]api.Stat{c.given.Stat(api.SideA), c.given.Stat(api.SideB)}
	if call, ok := callOf(s); ok {
		c.call(call)
	}
	c.agree()
}

// call makes a call in the made world: now, or behind the side's end, if that is put off.
func (c *carrier) call(s api.Step) {
	if c.putOff(s.Side) {
		c.late[s.Side] = append(c.late[s.Side], s)
		return
	}
	c.do(s)
}

// do does a step in the made world, and writes it down.
func (c *carrier) do(s api.Step) {
	c.made.Do(s)
	c.script.Steps = append(c.script.Steps, s)
}

// putOff tells whether a side has aborted or died in the given world, and not in the made one: its peer may still have to hear more of it than lies on one path.
func (c *carrier) putOff(side int) bool {
	bad := c.goal[side].Err
	return (bad == api.ErrAborted || bad == api.ErrDead) && !c.ended[side]
}

// end brings a side to the end that was put off. The calls behind it all answer its error; of one that has aborted the first is the Abort.
func (c *carrier) end(side int) {
	c.ended[side] = true
	if c.goal[side].Err == api.ErrDead {
		c.die(side)
	}
	for _, s := range c.late[side] {
		c.do(s)
	}
}

// die lets a side's clock tick until it is dead: one tick may send the first probe, each other one is a strike.
func (c *carrier) die(side int) {
	for range 2*c.retries + 2 {
		if c.made.Stat(side).Err != api.OK {
			return
		}
		c.do(api.Step{Kind: api.StepTick, Side: side, N: api.MaxRto})
	}
}

// deliver lets the peer of a side hear the first of its frames that is what is looked for; false, if none lies there.
func deliver[S sought[api.Parcel]](c *carrier, side int, what S) bool {
	k, ok := find(c.made.Bag(side, theWay), what)
	if ok {
		c.do(api.Step{Kind: api.StepDeliver, Side: side, Path: theWay, N: k})
	}
	return ok
}

// finish brings the sides to their ends that nobody has heard of.
func (c *carrier) finish() {
	for side := range c.goal {
		if c.putOff(side) {
			c.end(side)
		}
	}
}
