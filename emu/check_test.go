package emu_test

import (
	"math/big"
	"slices"
	"strings"
	"testing"

	"braid/api"
	"braid/emu"
)

const (
	maxTime  = 1 << 62
	maxSpan  = 1 << 40 // the greatest Rate, Delay and Jitter
	maxQueue = 1 << 30
)

// dice gives the same row of numbers in every run.
type dice uint64

func (d *dice) below(n int) int {
	*d = *d*6364136223846793005 + 1442695040888963407
	return int(uint64(*d) >> 33 % uint64(n))
}

// one is one of these.
func (d *dice) one(of ...int) int { return of[d.below(len(of))] }

func (d *dice) maybe(in int) bool { return d.below(in) == 0 }

// rows is how often something is tried.
func rows(n int) int {
	if testing.Short() {
		return n / 10
	}
	return n
}

// link is one whose answers are held against what is awaited.
type link struct {
	t *testing.T
	l *emu.Link
}

func lay(t *testing.T, c api.LinkConfig) link {
	t.Helper()
	l, e := emu.NewLink(c)
	if e != api.OK || l == nil {
		t.Fatalf("NewLink: %d", e)
	}
	c1 := link{t, l}
	c1.is(api.LinkStat{})
	c1.still()
	return c1
}

func (c link) put(now uint64, text string, want bool) {
	c.t.Helper()
	if got := c.l.Put(now, []byte(text)); got != want {
		c.t.Errorf("Put(%d, %d bytes): %v", now, len(text), got)
	}
}

// next awaits the time of the frame that comes next.
func (c link) next(want uint64) {
	c.t.Helper()
	if at, ok := c.l.Next(); at != want || !ok {
		c.t.Errorf("Next: %d, %v, want %d", at, ok, want)
	}
}

// still awaits that no frame flies.
func (c link) still() {
	c.t.Helper()
	if at, ok := c.l.Next(); at != 0 || ok {
		c.t.Errorf("Next: %d, %v", at, ok)
	}
}

func (c link) take(now uint64, want ...api.Arrival) {
	c.t.Helper()
	if got := c.l.Take(now); !sameArrivals(got, want) {
		c.t.Errorf("Take(%d): %v, want %v", now, got, want)
	}
}

func (c link) is(want api.LinkStat) {
	c.t.Helper()
	if got := c.l.Stat(); got != want {
		c.t.Errorf("Stat: %+v, want %+v", got, want)
	}
}

func arrival(at, num uint64, text string) api.Arrival {
	return api.Arrival{At: at, Num: num, Bytes: []byte(text)}
}

func sameArrivals(a, b []api.Arrival) bool {
	return slices.EqualFunc(a, b, func(x, y api.Arrival) bool {
		return x.At == y.At && x.Num == y.Num && string(x.Bytes) == string(y.Bytes)
	})
}

// long is a text of so many bytes.
func long(n int) string { return strings.Repeat("x", n) }

// ceil is a * b / c, rounded up, reckoned without bounds.
func ceil(a, b, c int) uint64 {
	x := new(big.Int).Mul(big.NewInt(int64(a)), big.NewInt(int64(b)))
	q, r := new(big.Int).QuoRem(x, big.NewInt(int64(c)), new(big.Int))
	if r.Sign() > 0 {
		q.Add(q, big.NewInt(1))
	}
	return q.Uint64()
}

// frame is one that was put, by the chapter's words.
type frame struct {
	put   uint64
	over  uint64
	come  uint64
	text  string
	lost  bool
	full  bool
	taken bool
}

func (f frame) flies() bool { return !f.lost && !f.full && !f.taken }

// linkByBook has no queue: each answer is reckoned anew out of all frames that were put.
type linkByBook struct {
	c      api.LinkConfig
	now    uint64
	frames []frame
}

func (m *linkByBook) at(now uint64) {
	if now > maxTime {
		now = maxTime
	}
	if now > m.now {
		m.now = now
	}
}

// sending is how long so many bytes are sent.
func (m *linkByBook) sending(count int) uint64 {
	if m.c.Rate == 0 {
		return 0
	}
	return ceil(count, 1000000, m.c.Rate)
}

func (m *linkByBook) waiting() int {
	n := 0
	for _, f := range m.frames {
		if !f.lost && !f.full && m.now < f.over {
			n += len(f.text)
		}
	}
	return n
}

func (m *linkByBook) busy() uint64 {
	for _, f := range slices.Backward(m.frames) {
		if !f.lost && !f.full {
			return f.over
		}
	}
	return 0
}

func (m *linkByBook) put(now uint64, text string) bool {
	m.at(now)
	n := len(m.frames)
	f := frame{put: m.now, text: text}
	switch {
	case len(m.c.Loss) > 0 && m.c.Loss[n%len(m.c.Loss)]:
		f.lost = true
	case m.waiting()+len(text) > m.c.Queue:
		f.full = true
	default:
		begin := m.busy()
		if begin < m.now {
			begin = m.now
		}
		f.over = begin + m.sending(len(text))
		f.come = f.over + uint64(m.c.Delay)
		if len(m.c.Jitter) > 0 {
			f.come += uint64(m.c.Jitter[n%len(m.c.Jitter)])
		}
	}
	m.frames = append(m.frames, f)
	return !f.lost && !f.full
}

// first is the number of the frame that comes next; -1, if none does.
func (m *linkByBook) first() int {
	best := -1
	for n, f := range m.frames {
		if f.flies() && (best < 0 || f.come < m.frames[best].come) {
			best = n
		}
	}
	return best
}

func (m *linkByBook) next() (uint64, bool) {
	n := m.first()
	if n < 0 {
		return 0, false
	}
	return m.frames[n].come, true
}

func (m *linkByBook) take(now uint64) []api.Arrival {
	m.at(now)
	var l []api.Arrival
	for n := m.first(); n >= 0 && m.frames[n].come <= m.now; n = m.first() {
		m.frames[n].taken = true
		l = append(l, arrival(m.frames[n].come, uint64(n), m.frames[n].text))
	}
	return l
}

func (m *linkByBook) stat() api.LinkStat {
	s := api.LinkStat{Now: m.now, Busy: m.busy(), Put: uint64(len(m.frames)), Waiting: m.waiting()}
	for _, f := range m.frames {
		switch {
		case f.lost:
			s.Lost++
		case f.full:
			s.Full++
		case f.taken:
			s.Come++
		default:
			s.Flying++
		}
	}
	return s
}
