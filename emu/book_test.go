package emu_test

import (
	"bytes"
	"reflect"
	"slices"
	"testing"

	"braid/api"
	"braid/conn"
	"braid/gobackn"
)

// bookEnd is a side of either connection.
type bookEnd interface {
	Write(p []byte) (int, api.Errno)
	Read(n int) ([]byte, bool, api.Errno)
	Close() api.Errno
	Abort() api.Errno
	Receive(path int, b []byte)
	Tick(ms int)
	Out() []api.Out
	Stat() api.Stat
}

// runByBook is an experiment by the chapter's words, without a world: two sides, and a list of frames for each side and path, as they lie there.
type runByBook struct {
	c      api.EmuConfig
	ends   [2]bookEnd
	links  [2][]*linkByBook
	bags   [2][][]int // numbers of frames on the link
	told   [2]bool
	now    uint64
	steps  []api.Step
	trace  []api.Entry
	times  []uint64
	log    []api.Event
	counts map[string]int // of things that a test wants to have seen
}

func newBook(t *testing.T, c api.EmuConfig) *runByBook {
	t.Helper()
	m := &runByBook{c: c, counts: make(map[string]int)}
	for side := range 2 {
		var e api.Errno
		if c.Conn.Sched == api.Single {
			m.ends[side], e = gobackn.New(c.Conn, side)
		} else {
			m.ends[side], e = conn.New(c.Conn, side)
		}
		if e != api.OK {
			t.Fatalf("%+v: %d", c.Conn, e)
		}
		for _, both := range c.Links {
			m.links[side] = append(m.links[side], &linkByBook{c: both[side]})
			m.bags[side] = append(m.bags[side], nil)
		}
	}
	return m
}

func (m *runByBook) event(what, side, path int, text string) {
	who := side
	if what == api.EventHeard {
		who = 1 - side
	}
	m.log = append(m.log, api.Event{What: what, Side: side, Path: path, Clock: m.ends[who].Stat().Clock, Bytes: []byte(text)})
}

// collect puts what a side wants sent on the links.
func (m *runByBook) collect(side int) {
	out := m.ends[side].Out()
	for _, o := range out {
		m.event(api.EventSent, side, o.Path, string(o.Bytes))
	}
	for path := range m.c.Links {
		for _, o := range out {
			if o.Path != path {
				continue
			}
			l := m.links[side][path]
			if l.put(m.now, string(o.Bytes)) {
				m.bags[side][path] = append(m.bags[side][path], len(l.frames)-1)
				continue
			}
			m.counts["dropped"]++
			m.steps = append(m.steps, api.Step{Kind: api.StepDrop, Side: side, Path: path, N: len(m.bags[side][path])})
			m.event(api.EventDropped, side, path, string(o.Bytes))
		}
	}
}

// call does a step of a side's own, with just the fields that its kind has.
func (m *runByBook) call(s api.Step) {
	e := m.ends[s.Side]
	many, _ := e.(*conn.End)
	x := api.Step{Kind: s.Kind, Side: s.Side}
	entry := api.Entry{Side: s.Side, Op: s.Kind}
	switch s.Kind {
	case api.StepWrite:
		x.Data = s.Data
		entry.Data = s.Data
		entry.N, entry.Err = e.Write(s.Data)
	case api.StepRead:
		x.N, entry.N = s.N, s.N
		entry.Data, entry.End, entry.Err = e.Read(s.N)
		m.told[s.Side] = m.told[s.Side] || entry.End
	case api.StepClose:
		entry.Err = e.Close()
	case api.StepAbort:
		entry.Err = e.Abort()
	case api.StepTick:
		x.N = s.N
		e.Tick(s.N)
	case api.StepJoin, api.StepPrio:
		x.Path, x.On = s.Path, s.On
		if many != nil && s.Kind == api.StepJoin {
			many.Join(s.Path, s.On)
		} else if many != nil {
			many.Prio(s.Path, s.On)
		}
	case api.StepLeave:
		x.Path = s.Path
		if many != nil {
			many.Leave(s.Path)
		}
	}
	if s.Kind <= api.StepAbort {
		m.trace = append(m.trace, entry)
		m.times = append(m.times, m.now)
	}
	m.steps = append(m.steps, x)
	m.collect(s.Side)
}

// arrive delivers, one by one, what has come by now.
func (m *runByBook) arrive() {
	for path := 0; path < len(m.c.Links); {
		side := 0
		for side < 2 {
			if at, ok := m.links[side][path].next(); ok && at <= m.now {
				break
			}
			side++
		}
		if side == 2 {
			path++
			continue
		}
		m.deliver(side, path)
		path = 0
	}
}

func (m *runByBook) deliver(side, path int) {
	l := m.links[side][path]
	num := l.first()
	l.frames[num].taken = true
	k := slices.Index(m.bags[side][path], num)
	m.bags[side][path] = slices.Delete(m.bags[side][path], k, k+1)
	if k > 0 {
		m.counts["out of turn"]++
	}
	m.steps = append(m.steps, api.Step{Kind: api.StepDeliver, Side: side, Path: path, N: k})
	hearer := m.ends[1-side]
	m.event(api.EventHeard, side, path, l.frames[num].text)
	hearer.Receive(path, []byte(l.frames[num].text))
	m.collect(1 - side)
	s := hearer.Stat()
	end := s.Ready == 0 && s.Next+uint64(m.c.Conn.RecvBuf) == s.Own+1
	if m.c.Eager[1-side] && s.Err == api.OK && (s.Ready > 0 || end && !m.told[1-side]) {
		m.counts["eager"]++
		m.call(api.Step{Kind: api.StepRead, Side: 1 - side, N: api.MaxBuf})
	}
	if m.c.Eager[1-side] && s.Err == api.OK && end && m.told[1-side] {
		m.counts["told"]++
	}
}

// play goes through all times at which something may be due, tick by tick.
func (m *runByBook) play() {
	last := uint64(0)
	plan := m.c.Plan
	for {
		tick := last/uint64(m.c.Tick*1000)*uint64(m.c.Tick*1000) + uint64(m.c.Tick*1000)
		now := tick
		if len(plan) > 0 && plan[0].At < now {
			now = plan[0].At
		}
		for side := range 2 {
			for _, l := range m.links[side] {
				if at, ok := l.next(); ok && at < now {
					now = at
				}
			}
		}
		if now > m.c.Until {
			return
		}
		m.now, last = now, now
		for len(plan) > 0 && plan[0].At == now {
			m.call(plan[0].Step)
			plan = plan[1:]
		}
		m.arrive()
		if now == tick {
			m.call(api.Step{Kind: api.StepTick, Side: 0, N: m.c.Tick})
			m.arrive()
			m.call(api.Step{Kind: api.StepTick, Side: 1, N: m.c.Tick})
			m.arrive()
		}
	}
}

func (m *runByBook) report() api.EmuReport {
	r := api.EmuReport{
		Script: api.Script{Config: m.c.Conn, Steps: m.steps},
		Report: api.Report{Trace: m.trace, Stats: [2]api.Stat{m.ends[0].Stat(), m.ends[1].Stat()}},
		Times:  m.times,
		Log:    m.log,
	}
	r.Script.Config.Bag = 1 << 30
	for path := range m.c.Links {
		var s [2]api.LinkStat
		for side := range 2 {
			m.links[side][path].at(m.now)
			s[side] = m.links[side][path].stat()
		}
		r.Links = append(r.Links, s)
	}
	return r
}

// An empty list may be nil.

func sameSteps(a, b []api.Step) bool {
	return slices.EqualFunc(a, b, func(x, y api.Step) bool {
		same := bytes.Equal(x.Data, y.Data)
		x.Data, y.Data = nil, nil
		return same && reflect.DeepEqual(x, y)
	})
}

func sameEntries(a, b []api.Entry) bool {
	return slices.EqualFunc(a, b, func(x, y api.Entry) bool {
		same := bytes.Equal(x.Data, y.Data)
		x.Data, y.Data = nil, nil
		return same && reflect.DeepEqual(x, y)
	})
}

func sameEvents(a, b []api.Event) bool {
	return slices.EqualFunc(a, b, func(x, y api.Event) bool {
		same := bytes.Equal(x.Bytes, y.Bytes)
		x.Bytes, y.Bytes = nil, nil
		return same && reflect.DeepEqual(x, y)
	})
}

func sameConfig(a, b api.Config) bool {
	same := slices.Equal(a.Weights, b.Weights)
	a.Weights, b.Weights = nil, nil
	for side := range 2 {
		same = same && slices.Equal(a.Picks[side], b.Picks[side])
		a.Picks[side], b.Picks[side] = nil, nil
	}
	return same && reflect.DeepEqual(a, b)
}

func sameReport(a, b api.Report) bool {
	return a.Err == b.Err && a.Forged == b.Forged && sameEntries(a.Trace, b.Trace) && reflect.DeepEqual(a.Stats, b.Stats)
}

// sameRun tells what two reports have otherwise; nothing, if they are the same.
func sameRun(a, b api.EmuReport) string {
	switch {
	case !sameConfig(a.Script.Config, b.Script.Config):
		return "Config"
	case !sameSteps(a.Script.Steps, b.Script.Steps):
		return "Steps"
	case !sameReport(a.Report, b.Report):
		return "Report"
	case !slices.Equal(a.Times, b.Times):
		return "Times"
	case !slices.Equal(a.Links, b.Links):
		return "Links"
	case !sameEvents(a.Log, b.Log):
		return "Log"
	}
	return ""
}
