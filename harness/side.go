package harness

import (
	"sync"

	"braid/api"
	"braid/conn"
	"braid/gobackn"
)

// end is a side of either connection.
type end interface {
	Write(p []byte) (int, api.Errno)
	Read(n int) ([]byte, bool, api.Errno)
	Close() api.Errno
	Abort() api.Errno
	Receive(path int, b []byte)
	Tick(ms int)
	Join(path int, backup bool)
	Prio(path int, backup bool)
	Leave(path int)
	Out() []api.Out
	Stat() api.Stat
}

// single is a side over path 0 alone, which is asked in vain for others.
type single struct{ *gobackn.End }

func (single) Join(path int, backup bool) {}

func (single) Prio(path int, backup bool) {}

func (single) Leave(path int) {}

// newEnds is the two sides of a configuration; an error, if it may not be.
func newEnds(c api.Config) ([2]end, api.Errno) {
	var both [2]end
	if bad := conn.Fit(c); bad != api.OK {
		return both, bad
	}
	for i := range both {
		both[i] = newEnd(c, i)
	}
	return both, api.OK
}

// newEnd is one side of a configuration that may be, which neither connection refuses.
func newEnd(c api.Config, i int) end {
	if c.Sched == api.Single {
		e, _ := gobackn.New(c, i)
		return single{e}
	}
	e, _ := conn.New(c, i)
	return e
}

// look is the kind of a call that is no step's: it looks at the side, and does nothing.
const look = 0

// answer is what comes of a call of a side.
type answer struct {
	n    int
	data []byte
	end  bool
	err  api.Errno
	out  []api.Out
	stat api.Stat // of a look and of a tick
}

// play makes the call of a step. Of StepDeliver the side is the one that hears, and Data the frame's bytes.
func play(e end, s api.Step) answer {
	var a answer
	switch s.Kind {
	case look:
		a.stat = e.Stat()
	case api.StepWrite:
		a.n, a.err = e.Write(s.Data)
	case api.StepRead:
		a.data, a.end, a.err = e.Read(s.N)
	case api.StepClose:
		a.err = e.Close()
	case api.StepAbort:
		a.err = e.Abort()
	case api.StepDeliver:
		e.Receive(s.Path, s.Data)
	case api.StepTick:
		e.Tick(s.N)
		a.stat = e.Stat()
	case api.StepJoin:
		e.Join(s.Path, s.On)
	case api.StepPrio:
		e.Prio(s.Path, s.On)
	case api.StepLeave:
		e.Leave(s.Path)
	}
	a.out = e.Out()
	return a
}

// side is where a world's calls go to.
type side interface {
	ask(s api.Step) answer
}

// near is a side that answers on the spot.
type near struct{ end }

func (n near) ask(s api.Step) answer { return play(n.end, s) }

// worker is a side that lives in a goroutine of its own.
type worker struct {
	calls   chan api.Step
	answers chan answer
}

// newWorker begins a side's life, which lasts until its calls are closed; then the group is told.
func newWorker(e end, group *sync.WaitGroup) worker {
	w := worker{calls: make(chan api.Step), answers: make(chan answer)}
	group.Add(1)
	go func() {
		defer group.Done()
		for s := range w.calls {
			w.answers <- play(e, s)
		}
	}()
	return w
}

func (w worker) ask(s api.Step) answer {
	w.calls <- s
	return <-w.answers
}

// leave ends the worker's life.
func (w worker) leave() { close(w.calls) }
