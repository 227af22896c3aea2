package emu

import (
	"slices"

	"braid/api"
	"braid/harness"
)

// experiment is a world whose frames fly over links, at a moment.
type experiment struct {
	world  *harness.World
	links  [][2]lane // of each path, by the side that sends
	plan   []api.Act // those whose time has not come
	tick   int
	ticks  uint64 // when the clocks tick next
	eager  [2]bool
	told   [2]bool // a Read of the side has told the end
	now    uint64
	script api.Script
	times  []uint64
}

// lane is a link, and the frames that fly over it as they lie in the world's bag.
type lane struct {
	link  *Link
	lying []uint64 // their numbers on the link, in the bag's order
}

// newExperiment is one that may be, in which nothing has happened.
func newExperiment(c api.EmuConfig) *experiment {
	e := &experiment{plan: c.Plan, tick: c.Tick, ticks: micros(c.Tick), eager: c.Eager}
	e.script.Config = ownConfig(c.Conn)
	e.world, _ = harness.New(e.script.Config)
	for _, both := range c.Links {
		var l [2]lane
		for from := range l {
			l[from].link, _ = NewLink(both[from])
		}
		e.links = append(e.links, l)
	}
	return e
}

// ownConfig is the configuration in memory of its own, with bags that hold whatever flies.
func ownConfig(c api.Config) api.Config {
	c.Bag = api.MaxBag
	c.Weights = slices.Clone(c.Weights)
	for side := range c.Picks {
		c.Picks[side] = slices.Clone(c.Picks[side])
	}
	return c
}

// next is the next moment: there is always one, as the clocks go on.
func (e *experiment) next() uint64 {
	at := e.ticks
	if len(e.plan) > 0 {
		at = min(at, e.plan[0].At)
	}
	for _, both := range e.links {
		for _, l := range both {
			if comes, ok := l.link.Next(); ok {
				at = min(at, comes)
			}
		}
	}
	return at
}

// goOn lets the time go on to a moment, on all links too, also those that nothing is put on or taken from.
func (e *experiment) goOn(at uint64) {
	e.now = at
	for _, both := range e.links {
		for _, l := range both {
			l.link.goOn(at)
		}
	}
}

// play plays what is due at a moment.
func (e *experiment) play(at uint64) {
	e.goOn(at)
	for len(e.plan) > 0 && e.plan[0].At == at {
		e.do(planned(e.plan[0].Step))
		e.plan = e.plan[1:]
	}
	e.arrive()
	if at != e.ticks {
		return
	}
	for side := range e.eager {
		e.do(api.Step{Kind: api.StepTick, Side: side, N: e.tick})
		e.arrive()
	}
	e.ticks += micros(e.tick)
}

// planned is an act's step with just the fields that its kind has, in memory of its own.
func planned(s api.Step) api.Step {
	own := api.Step{Kind: s.Kind, Side: s.Side}
	switch s.Kind {
	case api.StepWrite:
		own.Data = slices.Clone(s.Data)
	case api.StepRead:
		own.N = s.N
	case api.StepJoin, api.StepPrio:
		own.Path, own.On = s.Path, s.On
	case api.StepLeave:
		own.Path = s.Path
	}
	return own
}

// do does a step of a side's own.
func (e *experiment) do(s api.Step) {
	if s.Kind == api.StepRead && e.atEnd(e.world.Stat(s.Side)) {
		e.told[s.Side] = true
	}
	e.note(s)
	e.post(s.Side)
}

// note plays a step in the world and writes it down.
func (e *experiment) note(s api.Step) {
	e.script.Steps = append(e.script.Steps, s)
	e.world.Do(s)
	switch s.Kind {
	case api.StepWrite, api.StepRead, api.StepClose, api.StepAbort:
		e.times = append(e.times, e.now)
	}
}

// atEnd tells whether a Read of a side that stands so tells the end of the stream: all of it, the end too, was taken and nothing is left to be read.
func (e *experiment) atEnd(s api.Stat) bool {
	return s.Err == api.OK && s.Ready == 0 && s.Next+uint64(e.script.Config.RecvBuf) == s.Own+1
}

// post puts what a side has sent by a step on the links.
func (e *experiment) post(from int) {
	for path := range e.links {
		l := &e.links[path][from]
		for _, p := range e.world.Bag(from, path)[len(l.lying):] {
			num := l.link.stat.Put
			if l.link.Put(e.now, p.Bytes) {
				l.lying = append(l.lying, num)
				continue
			}
			e.note(api.Step{Kind: api.StepDrop, Side: from, Path: path, N: len(l.lying)})
		}
	}
}

// arrive delivers whatever has come.
func (e *experiment) arrive() {
	for {
		path, from, a, ok := e.first()
		if !ok {
			return
		}
		e.deliver(path, from, a.Num)
	}
}

// first takes the frame that is delivered next, if one has come: with its path, and who has sent it.
func (e *experiment) first() (int, int, api.Arrival, bool) {
	for path := range e.links {
		for from := range e.links[path] {
			if a, ok := e.links[path][from].link.takeOne(); ok {
				return path, from, a, true
			}
		}
	}
	return 0, 0, api.Arrival{}, false
}

// deliver lets the peer hear a frame, and read what there is then.
func (e *experiment) deliver(path, from int, num uint64) {
	l := &e.links[path][from]
	k, _ := slices.BinarySearch(l.lying, num)
	l.lying = slices.Delete(l.lying, k, k+1)
	e.note(api.Step{Kind: api.StepDeliver, Side: from, Path: path, N: k})
	hearer := 1 - from
	e.post(hearer)
	if e.eager[hearer] && e.wants(hearer) {
		e.do(api.Step{Kind: api.StepRead, Side: hearer, N: api.MaxBuf})
	}
}

// wants tells whether there is something that a side has not been told.
func (e *experiment) wants(side int) bool {
	s := e.world.Stat(side)
	return s.Err == api.OK && (s.Ready > 0 || e.atEnd(s) && !e.told[side])
}

// report tells what came of the experiment.
func (e *experiment) report() api.EmuReport {
	r := api.EmuReport{
		Script: e.script,
		Report: api.Report{
			Trace:  e.world.Trace(),
			Stats:  [2]api.Stat{e.world.Stat(api.SideA), e.world.Stat(api.SideB)},
			Forged: e.world.Forged(),
		},
		Times: e.times,
		Log:   e.world.Log(),
	}
	for _, both := range e.links {
		var s [2]api.LinkStat
		for from, l := range both {
			s[from] = l.link.Stat()
		}
		r.Links = append(r.Links, s)
	}
	return r
}
