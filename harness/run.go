package harness

import (
	"slices"
	"sync"

	"braid/api"
)

// Run plays a whole script.
func Run(s api.Script) api.Report {
	ends, bad := newEnds(s.Config)
	if bad != api.OK {
		return api.Report{Err: bad}
	}
	var group sync.WaitGroup
	a, b := newWorker(ends[api.SideA], &group), newWorker(ends[api.SideB], &group)
	w := newWorld(s.Config, a, b)
	w.unread = true
	for _, step := range s.Steps {
		w.Do(step)
	}
	r := w.report()
	a.leave()
	b.leave()
	group.Wait()
	return r
}

func (w *World) report() api.Report {
	return api.Report{
		Trace:  w.Trace(),
		Stats:  [2]api.Stat{w.Stat(api.SideA), w.Stat(api.SideB)},
		Forged: w.Forged(),
	}
}

// maxRounds is how many rounds Calm adds at most.
const maxRounds = 65536

// Calm is a script with so many calm rounds on a path behind it.
func Calm(s api.Script, path, rounds int) api.Script {
	out := api.Script{Config: ownConfig(s.Config), Steps: ownSteps(s.Steps)}
	out.Steps = append(out.Steps, api.Step{Kind: api.StepUp, Path: path})
	for range min(max(rounds, 0), maxRounds) {
		out.Steps = append(out.Steps,
			api.Step{Kind: api.StepFlush, Path: path},
			api.Step{Kind: api.StepRead, Side: api.SideA, N: api.MaxBuf},
			api.Step{Kind: api.StepRead, Side: api.SideB, N: api.MaxBuf},
			api.Step{Kind: api.StepTick, Side: api.SideA, N: api.MaxRto},
			api.Step{Kind: api.StepTick, Side: api.SideB, N: api.MaxRto},
		)
	}
	return out
}

// ownConfig is the same configuration in memory of its own.
func ownConfig(c api.Config) api.Config {
	c.Weights = slices.Clone(c.Weights)
	for i := range c.Picks {
		c.Picks[i] = slices.Clone(c.Picks[i])
	}
	return c
}

// ownSteps is the same steps in memory of their own.
func ownSteps(steps []api.Step) []api.Step {
	l := slices.Clone(steps)
	for i := range l {
		l[i].Data = slices.Clone(l[i].Data)
	}
	return l
}
