package harness_test

import (
	"bytes"
	"fmt"
	"reflect"
	"slices"
	"testing"

	"braid/api"
	"braid/conn"
	"braid/gobackn"
	"braid/harness"
	"braid/wire"
)

// modelEnd is a side of either connection.
type modelEnd interface {
	Write(p []byte) (int, api.Errno)
	Read(n int) ([]byte, bool, api.Errno)
	Close() api.Errno
	Abort() api.Errno
	Receive(path int, b []byte)
	Tick(ms int)
	Out() []api.Out
	Stat() api.Stat
}

// modelFrame is a frame in a bag: its bytes, and those that were put.
type modelFrame struct{ now, put string }

// model is a world as the chapter words it: two sides, and a list of frames for each side and path.
type model struct {
	c      api.Config
	ends   [2]modelEnd
	bags   [2][][]modelFrame
	down   []bool
	trace  []api.Entry
	log    []api.Event
	forged int
}

func newModel(t *testing.T, c api.Config) *model {
	t.Helper()
	m := &model{c: c, down: make([]bool, c.Paths)}
	for side := range 2 {
		m.bags[side] = make([][]modelFrame, c.Paths)
		if c.Sched == api.Single {
			e, bad := gobackn.New(c, side)
			if bad != api.OK {
				t.Fatal(bad)
			}
			m.ends[side] = e
			continue
		}
		e, bad := conn.New(c, side)
		if bad != api.OK {
			t.Fatal(bad)
		}
		m.ends[side] = e
	}
	return m
}

// modelSide is 0 or 1, whatever a side's number is.
func modelSide(side int) int {
	if side%2 == 0 {
		return 0
	}
	return 1
}

// modelRound looks for the least number from 0 on that leaves the same behind as n.
func modelRound(n, count int) int {
	for k := range count {
		if (n%count-k)%count == 0 {
			return k
		}
	}
	panic("counted round nothing")
}

// note: Heard has the clock of the one that hears, all others that of the one that has sent.
func (m *model) note(what, side, path int, b string) {
	who := side
	if what == api.EventHeard {
		who = 1 - side
	}
	m.log = append(m.log, api.Event{What: what, Side: side, Path: path, Clock: m.ends[who].Stat().Clock, Bytes: []byte(b)})
}

func (m *model) collect(side int) {
	for _, o := range m.ends[side].Out() {
		bag := &m.bags[side][o.Path]
		if m.down[o.Path] || len(*bag) >= m.c.Bag {
			m.note(api.EventLost, side, o.Path, string(o.Bytes))
			continue
		}
		*bag = append(*bag, modelFrame{string(o.Bytes), string(o.Bytes)})
		m.note(api.EventSent, side, o.Path, string(o.Bytes))
	}
}

func (m *model) there(path int) bool { return path >= 0 && path < m.c.Paths }

func (m *model) do(s api.Step) {
	side := modelSide(s.Side)
	e := m.ends[side]
	many, _ := e.(*conn.End)
	switch s.Kind {
	case api.StepWrite:
		n, bad := e.Write(s.Data)
		m.trace = append(m.trace, api.Entry{Side: side, Op: 1, Data: bytes.Clone(s.Data), N: n, Err: bad})
	case api.StepRead:
		b, ended, bad := e.Read(s.N)
		m.trace = append(m.trace, api.Entry{Side: side, Op: 2, Data: b, N: s.N, End: ended, Err: bad})
	case api.StepClose:
		m.trace = append(m.trace, api.Entry{Side: side, Op: 3, Err: e.Close()})
	case api.StepAbort:
		m.trace = append(m.trace, api.Entry{Side: side, Op: 4, Err: e.Abort()})
	case api.StepTick:
		e.Tick(s.N)
	case api.StepDown:
		if m.there(s.Path) {
			m.down[s.Path] = true
		}
	case api.StepUp:
		if m.there(s.Path) {
			m.down[s.Path] = false
		}
	case api.StepFlush:
		m.flush(s.Path)
	case api.StepJoin, api.StepPrio, api.StepLeave:
		if many != nil {
			[]func(){func() { many.Join(s.Path, s.On) }, func() { many.Prio(s.Path, s.On) }, func() { many.Leave(s.Path) }}[s.Kind-api.StepJoin]()
		}
	case api.StepDeliver, api.StepDrop, api.StepDouble, api.StepSpoil:
		if m.there(s.Path) && len(m.bags[side][s.Path]) > 0 {
			m.frame(side, s)
		}
	}
	m.collect(side)
}

// frame does a step that meets a frame.
func (m *model) frame(side int, s api.Step) {
	bag := &m.bags[side][s.Path]
	k := modelRound(s.N, len(*bag))
	f := &(*bag)[k]
	switch {
	case s.Kind == api.StepDrop:
		m.note(api.EventDropped, side, s.Path, f.now)
		*bag = slices.Concat((*bag)[:k], (*bag)[k+1:])
	case s.Kind == api.StepSpoil:
		b := []byte(f.now)
		b[modelRound(s.At, len(b))] ^= s.Mask
		f.now = string(b)
		m.note(api.EventSpoilt, side, s.Path, f.now)
	case m.down[s.Path]:
	case s.Kind == api.StepDeliver:
		m.deliver(side, s.Path, k)
	case s.Kind == api.StepDouble && len(*bag) < m.c.Bag:
		m.note(api.EventDoubled, side, s.Path, f.now)
		*bag = append(*bag, *f)
	}
}

func (m *model) deliver(side, path, k int) {
	bag := &m.bags[side][path]
	f := (*bag)[k]
	*bag = slices.Concat((*bag)[:k], (*bag)[k+1:])
	if _, bad := wire.Decode([]byte(f.now)); bad == api.OK && f.now != f.put {
		m.forged++
	}
	m.note(api.EventHeard, side, path, f.now)
	m.ends[1-side].Receive(path, []byte(f.now))
	m.collect(1 - side)
}

func (m *model) flush(path int) {
	if !m.there(path) || m.down[path] {
		return
	}
	for len(m.bags[0][path]) > 0 || len(m.bags[1][path]) > 0 {
		for range len(m.bags[0][path]) {
			m.deliver(0, path, 0)
		}
		for range len(m.bags[1][path]) {
			m.deliver(1, path, 0)
		}
	}
}

// report is what Run must tell.
func (m *model) report() api.Report {
	return api.Report{Trace: m.trace, Stats: [2]api.Stat{m.ends[0].Stat(), m.ends[1].Stat()}, Forged: m.forged}
}

// play is what Play must tell.
func (m *model) play() string {
	out := ""
	for _, e := range m.trace {
		out += string("AB"[e.Side]) + " " + []string{1: "write", 2: "read", 3: "close", 4: "abort"}[e.Op]
		switch {
		case e.Err != 0:
			out += fmt.Sprintf(": error %d", int(e.Err))
		case e.Op == api.StepWrite:
			out += fmt.Sprintf(" %d of %d", e.N, len(e.Data))
		case e.Op == api.StepRead:
			out += ` "`
			for _, b := range e.Data {
				switch {
				case b == 34 || b == 92:
					out += `\` + string(rune(b))
				case b >= 32 && b <= 126:
					out += string(rune(b))
				default:
					out += fmt.Sprintf(`\x%02x`, b)
				}
			}
			out += `"`
			if e.End {
				out += " end"
			}
		}
		out += "\n"
	}
	for side := range 2 {
		s := m.ends[side].Stat()
		out += fmt.Sprintf("%c: clock %d acked %d high %d end %d edge %d next %d own %d stored %d error %d\n",
			"AB"[side], s.Clock, s.Acked, s.High, s.End, s.Edge, s.Next, s.Own, s.Stored, int(s.Err))
	}
	return out + fmt.Sprintf("forged %d\n", m.forged)
}

// sameEntries: an empty list may be nil.
func sameEntries(a, b []api.Entry) bool {
	return slices.EqualFunc(a, b, func(x, y api.Entry) bool {
		same := bytes.Equal(x.Data, y.Data)
		x.Data, y.Data = nil, nil
		return same && reflect.DeepEqual(x, y)
	})
}

func sameEvents(a, b []api.Event) bool {
	return slices.EqualFunc(a, b, func(x, y api.Event) bool {
		return x.What == y.What && x.Side == y.Side && x.Path == y.Path && x.Clock == y.Clock && bytes.Equal(x.Bytes, y.Bytes)
	})
}

func sameReports(a, b api.Report) bool {
	return a.Err == b.Err && a.Forged == b.Forged && sameEntries(a.Trace, b.Trace) && reflect.DeepEqual(a.Stats, b.Stats)
}

// same fails unless a world is what the model says, in all that can be asked.
func (m *model) same(t *testing.T, w *harness.World, what any) {
	t.Helper()
	if got := w.Trace(); !sameEntries(got, m.trace) {
		t.Fatalf("%v: Trace %+v, want %+v", what, got, m.trace)
	}
	if got := w.Log(); !sameEvents(got, m.log) {
		t.Fatalf("%v: Log %+v, want %+v", what, got, m.log)
	}
	m.sameLook(t, w, what)
}

// sameLook looks at all but the lists that only grow.
func (m *model) sameLook(t *testing.T, w *harness.World, what any) {
	t.Helper()
	if w.Forged() != m.forged {
		t.Fatalf("%v: Forged %d, want %d", what, w.Forged(), m.forged)
	}
	for side := range 2 {
		if got, want := w.Stat(side), m.ends[side].Stat(); !reflect.DeepEqual(got, want) {
			t.Fatalf("%v: Stat(%d) %+v, want %+v", what, side, got, want)
		}
		for path := range m.c.Paths {
			bag := w.Bag(side, path)
			if !slices.EqualFunc(bag, m.bags[side][path], func(p api.Parcel, f modelFrame) bool {
				return string(p.Bytes) == f.now && p.Spoilt == (f.now != f.put)
			}) {
				t.Fatalf("%v: Bag(%d, %d) %+v, want %q", what, side, path, bag, m.bags[side][path])
			}
		}
	}
}
