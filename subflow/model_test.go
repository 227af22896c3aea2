package subflow_test

import (
	"math"
	"slices"
	"testing"

	"braid/api"
	"braid/rtt"
	"braid/subflow"
)

// dice gives the same row of numbers in every run.
type dice uint64

func (d *dice) below(n uint64) uint64 {
	*d = *d*6364136223846793005 + 1442695040888963407
	return uint64(*d) >> 20 % n
}

func (d *dice) oneOf(l ...uint64) uint64 { return l[d.below(uint64(len(l)))] }

const (
	flying = iota
	acked
	lost
	fired
)

// model is a Flow as the chapter words it: all that was ever sent, and what became of it.
type model struct {
	items      []api.Item
	fate       []int
	est        *rtt.Est
	mark, last uint64
	top, line  int // the top is -1 as long as nothing was heard
	strikes    int
	retries    int
}

func newModel(retries int) *model {
	m := &model{est: rtt.New(), top: -1, retries: retries}
	if retries < 1 {
		m.retries = 1
	}
	if retries > 16 {
		m.retries = 16
	}
	return m
}

func (m *model) flying() []api.Item {
	var l []api.Item
	for i, x := range m.items {
		if m.fate[i] == flying {
			l = append(l, x)
		}
	}
	return l
}

func (m *model) send(now uint64, kind int, off uint64, n int) uint64 {
	if len(m.flying()) == 0 {
		m.mark = now
	}
	num := uint64(len(m.items))
	m.items = append(m.items, api.Item{Num: num, Kind: kind, Off: off, Len: n, At: now})
	m.fate = append(m.fate, flying)
	m.last = now
	return num
}

func within(num int, l []api.Range) bool {
	for _, r := range l {
		if r.Lo <= uint64(num) && uint64(num) < r.Hi {
			return true
		}
	}
	return false
}

func (m *model) ack(now uint64, l []api.Range) api.Heard {
	var h api.Heard
	for i, x := range m.items {
		if !within(i, l) {
			continue
		}
		m.top = max(m.top, i)
		if m.fate[i] == flying {
			m.fate[i] = acked
			h.Acked = append(h.Acked, x)
		}
	}
	if len(h.Acked) > 0 {
		ms := uint64(0)
		if at := h.Acked[len(h.Acked)-1].At; now > at {
			ms = now - at
		}
		m.est.Sample(ms)
		m.mark = now
	}
	for i, x := range m.items {
		if m.fate[i] == flying && i+3 <= m.top {
			m.fate[i] = lost
			h.Lost = append(h.Lost, x)
			h.Cut = h.Cut || i >= m.line
		}
	}
	if h.Cut {
		m.line = len(m.items)
	}
	return h
}

func (m *model) tick(now uint64) ([]api.Item, bool) {
	l := m.flying()
	if len(l) == 0 || now < m.mark || now-m.mark < m.est.Rto() {
		return nil, false
	}
	for _, x := range l {
		m.fate[x.Num] = fired
	}
	m.strikes++
	m.est.Back()
	m.line = len(m.items)
	return l, true
}

func (m *model) look() look {
	l := look{
		last: m.last, next: uint64(len(m.items)), inflight: len(m.flying()),
		strikes: m.strikes, dead: m.strikes > m.retries, gone: m.strikes > 2*m.retries,
		rto: m.est.Rto(),
	}
	l.srtt, l.known = m.est.Srtt()
	if l.inflight > 0 {
		l.runs = true
		l.deadline = m.mark + l.rto
		if l.deadline < m.mark {
			l.deadline = math.MaxUint64
		}
	}
	return l
}

// look is all that a Flow tells, but for its items.
type look struct {
	deadline   uint64
	runs       bool
	last, next uint64
	inflight   int
	strikes    int
	dead, gone bool
	srtt       uint64
	known      bool
	rto        uint64
}

func lookAt(f *subflow.Flow) look {
	l := look{
		last: f.Last(), next: f.Next(), inflight: f.Inflight(),
		strikes: f.Strikes(), dead: f.Dead(), gone: f.Gone(), rto: f.Rto(),
	}
	l.deadline, l.runs = f.Deadline()
	l.srtt, l.known = f.Srtt()
	return l
}

// someNow is a clock: mostly somewhat on, at times behind, around where the timer fires, or at an end.
func someNow(d *dice, m *model) uint64 {
	due := m.mark + m.est.Rto()
	switch d.below(12) {
	case 0:
		return due
	case 1:
		return due - 1
	case 2:
		return due + d.below(3000)
	case 3:
		return m.mark - d.below(5)
	case 4:
		return d.oneOf(0, 1, 1<<62, 1<<63, math.MaxUint64-1000, math.MaxUint64-1, math.MaxUint64)
	case 5:
		return m.last - min(m.last, d.below(300))
	}
	return m.last + d.below(300)
}

// someRanges is mostly ranges around what was sent last, and at times any.
func someRanges(d *dice, next uint64) []api.Range {
	var l []api.Range
	for range d.below(5) {
		lo := next - min(next, d.below(9))
		if d.below(6) == 0 {
			lo = d.below(next + 3)
		}
		r := api.Range{Lo: lo, Hi: lo + d.below(4)}
		switch d.below(16) {
		case 0:
			r.Hi = lo - min(lo, 2)
		case 1:
			r.Hi = d.oneOf(next, next+1, 1<<63, math.MaxUint64-1, math.MaxUint64)
		case 2:
			r.Lo = d.oneOf(next, next+1, 1<<63, math.MaxUint64-1, math.MaxUint64)
		}
		l = append(l, r)
	}
	return l
}

func sameHeard(a, b api.Heard) bool {
	return slices.Equal(a.Acked, b.Acked) && slices.Equal(a.Lost, b.Lost) && a.Cut == b.Cut
}

// tally counts how often each number was told, and as what.
type tally map[uint64][4]int

func (y tally) note(l []api.Item, what int) {
	for _, x := range l {
		n := y[x.Num]
		n[what]++
		y[x.Num] = n
	}
}

// once is P7.8 and P7.9 of all that a Flow has told.
func (y tally) once(t *testing.T, f *subflow.Flow) {
	t.Helper()
	y.note(f.Items(), flying)
	if uint64(len(y)) != f.Next() {
		t.Fatalf("%d numbers were told or are under way, of %d", len(y), f.Next())
	}
	for num, n := range y {
		if n[0]+n[1]+n[2]+n[3] != 1 || num >= f.Next() {
			t.Fatalf("number %d: under way, acknowledged, lost, fired: %v", num, n)
		}
	}
}

// play makes one call of both, and holds what they tell against each other.
func play(t *testing.T, d *dice, f *subflow.Flow, m *model, y tally) {
	t.Helper()
	now := someNow(d, m)
	switch d.below(10) {
	case 0, 1, 2, 3:
		kind := int(d.oneOf(api.KindData, api.KindFin, api.KindProbe, 0, 1<<63, math.MaxInt))
		off, n := d.oneOf(0, 7, 1<<62, math.MaxUint64), int(d.oneOf(0, 5, 1<<63, math.MaxInt, math.MaxUint64))
		if got, want := f.Send(now, kind, off, n), m.send(now, kind, off, n); got != want {
			t.Fatalf("Send: %d, want %d", got, want)
		}
	case 4, 5, 6, 7:
		l := someRanges(d, f.Next())
		given := slices.Clone(l)
		got, want := f.Acked(now, l), m.ack(now, l)
		if !sameHeard(got, want) || !slices.Equal(l, given) {
			t.Fatalf("Acked(%d, %v): %v, want %v", now, given, got, want)
		}
		y.note(got.Acked, acked)
		y.note(got.Lost, lost)
	case 8:
		got, ok := f.Tick(now)
		want, wanted := m.tick(now)
		if !slices.Equal(got, want) || ok != wanted {
			t.Fatalf("Tick(%d): %v %v, want %v %v", now, got, ok, want, wanted)
		}
		y.note(got, fired)
	case 9:
		if d.below(4) == 0 {
			f.Wake()
			m.strikes = 0
			m.est.Calm()
		}
	}
}

// P7.1 to P7.6, P7.8 and P7.9: rows of calls, each held against the model.
func TestModel(t *testing.T) {
	d := dice(7)
	rows := 1500
	if testing.Short() {
		rows = 150
	}
	for range rows {
		retries := int(d.oneOf(1<<63, math.MaxUint64, 0, 1, 2, 3, 15, 16, 17, math.MaxInt))
		f, m, y := subflow.New(retries), newModel(retries), tally{}
		for range 120 {
			play(t, &d, f, m, y)
			if got, want := lookAt(f), m.look(); got != want {
				t.Fatalf("%+v, want %+v", got, want)
			}
			if got, want := f.Items(), m.flying(); !slices.Equal(got, want) {
				t.Fatalf("Items %v, want %v", got, want)
			}
		}
		y.once(t, f)
	}
}

// seenModel is a Seen as the chapter words it: the numbers that are there, one by one, rising.
type seenModel struct {
	there  []uint64
	all    []uint64
	forgot bool
}

func (m *seenModel) stretches() []api.Range {
	var l []api.Range
	for _, x := range m.there {
		if n := len(l); n > 0 && l[n-1].Hi == x {
			l[n-1].Hi++
			continue
		}
		l = append(l, api.Range{Lo: x, Hi: x + 1})
	}
	return l
}

func (m *seenModel) got(num uint64) bool {
	if num == math.MaxUint64 {
		return false
	}
	m.all = append(m.all, num)
	at, there := slices.BinarySearch(m.there, num)
	if there {
		return false
	}
	m.there = slices.Insert(m.there, at, num)
	for l := m.stretches(); len(l) > 32; l = m.stretches() {
		m.forgot = true
		m.there = slices.DeleteFunc(m.there, func(x uint64) bool { return x < l[0].Hi })
	}
	return true
}

func (m *seenModel) ranges() []api.Range {
	l := m.stretches()
	for len(l) > 8 {
		l = l[1:]
	}
	return l
}

// onlyCome is P7.11 of a Seen that has forgotten none.
func (m *seenModel) onlyCome(t *testing.T, l []api.Range) {
	t.Helper()
	if len(m.all) == 0 {
		return
	}
	for _, r := range l {
		for x := r.Lo; x < r.Hi; x++ {
			if !slices.Contains(m.all, x) {
				t.Fatalf("%d has not come: %v", x, l)
			}
		}
	}
	if top := slices.Max(m.all); len(l) == 0 || l[len(l)-1].Hi != top+1 {
		t.Fatalf("%v: the greatest that has come is %d", l, top)
	}
}

// P7.7 and P7.11: rows of numbers, near one another or far apart, at both ends of the type.
func TestSeenModel(t *testing.T) {
	d := dice(77)
	rows := 300
	if testing.Short() {
		rows = 30
	}
	for range rows {
		s, m := subflow.NewSeen(), &seenModel{}
		width := 20 + d.below(180)
		base := d.oneOf(0, 1<<62, math.MaxUint64-width+1)
		for range 150 {
			num := base + d.below(width)
			if got, want := s.Got(num), m.got(num); got != want {
				t.Fatalf("Got(%d): %v, want %v", num, got, want)
			}
			if got, want := s.Ranges(), m.ranges(); !slices.Equal(got, want) {
				t.Fatalf("behind Got(%d): %v, want %v", num, got, want)
			}
			if !m.forgot {
				m.onlyCome(t, s.Ranges())
			}
		}
	}
}
