package join_test

import (
	"bytes"
	"math"
	"math/big"
	"testing"

	"braid/api"
	"braid/join"
)

// dice gives the same row of numbers in every run.
type dice uint64

func (d *dice) below(n uint64) uint64 {
	*d = *d*6364136223846793005 + 1442695040888963407
	return uint64(*d) >> 20 % n
}

func (d *dice) one(in uint64) bool { return d.below(in) == 0 }

func (d *dice) oneOf(l ...int) int { return l[d.below(uint64(len(l)))] }

func (d *dice) number(l ...uint64) uint64 { return l[d.below(uint64(len(l)))] }

// model is a Half as the chapter words it; it keeps the frame that is out, and reckons times in numbers without an end.
type model struct {
	isB       bool
	path      int
	own, peer uint64
	retries   int
	state     int
	backup    bool
	heard     uint32
	again     int
	mark      uint64
	last      api.Frame
}

func newModel(side, path int, own, peer uint64, retries int) *model {
	m := &model{isB: uint64(side)%2 == 1, path: path, own: own, peer: peer, retries: retries}
	if retries < 1 {
		m.retries = 1
	}
	if retries > 16 {
		m.retries = 16
	}
	if path == 0 {
		m.state = join.Joined
	}
	return m
}

func (m *model) nonce() uint32 { return nonceOf(m.own, m.path) }

func (m *model) start(now uint64, backup bool) (api.Frame, bool) {
	if m.isB || m.state != join.None {
		return api.Frame{}, false
	}
	m.state, m.backup, m.again, m.mark = join.Asked, backup, 0, now
	m.last = api.Frame{Kind: api.KindJoin, Path: m.path, Token: tokenOf(m.peer), Nonce: m.nonce(), Backup: backup}
	return m.last, true
}

func (m *model) hear(now uint64, f api.Frame) (api.Frame, bool) {
	if f.Path != m.path || m.path == 0 {
		return api.Frame{}, false
	}
	switch f.Kind {
	case api.KindJoin:
		if !m.isB || m.state != join.None && m.state != join.Answered || f.Token != tokenOf(m.own) {
			break
		}
		m.state, m.heard, m.backup, m.again, m.mark = join.Answered, f.Nonce, f.Backup, 0, now
		m.last = api.Frame{Kind: api.KindJoined, Path: m.path, Nonce: m.nonce(), Mac: proofOf(m.own, m.peer, m.nonce(), m.heard)[:8]}
		return m.last, true
	case api.KindJoined:
		if m.isB || m.state != join.Asked && m.state != join.Joined || !bytes.Equal(f.Mac, proofOf(m.peer, m.own, f.Nonce, m.nonce())[:8]) {
			break
		}
		m.state = join.Joined
		return api.Frame{Kind: api.KindProve, Path: m.path, Mac: proofOf(m.own, m.peer, m.nonce(), f.Nonce)[:20]}, true
	case api.KindProve:
		if m.isB && m.state == join.Answered && bytes.Equal(f.Mac, proofOf(m.peer, m.own, m.heard, m.nonce())[:20]) {
			m.state = join.Joined
		}
	}
	return api.Frame{}, false
}

// due tells whether now is not below the mark and has the wait behind it.
func (m *model) due(now uint64) bool {
	wait := new(big.Int).Lsh(big.NewInt(1000), uint(m.again))
	if most := big.NewInt(60000); wait.Cmp(most) > 0 {
		wait = most
	}
	when := new(big.Int).Add(new(big.Int).SetUint64(m.mark), wait)
	return new(big.Int).SetUint64(now).Cmp(when) >= 0
}

func (m *model) tick(now uint64) (api.Frame, bool) {
	if m.state != join.Asked && m.state != join.Answered || !m.due(now) {
		return api.Frame{}, false
	}
	if m.again == m.retries {
		m.state = join.None
		return api.Frame{}, false
	}
	m.again++
	m.mark = now
	return m.last, true
}

func (m *model) leave() bool {
	if m.state != join.Joined {
		return false
	}
	m.state = join.Left
	return true
}

// wait is how long the model waits at present.
func (m *model) wait() uint64 { return min(uint64(1000)<<m.again, 60000) }

// someTime is one near the moments that count, or anywhere.
func someTime(d *dice, m *model) uint64 {
	if d.one(30) {
		return d.number(0, 1000, 1<<62, 1<<63, math.MaxUint64, math.MaxUint64-1000)
	}
	w := m.mark + m.wait()
	return d.number(w, w, w, w-1, w+1, w+d.below(100000), m.mark, m.mark-1, m.mark+1, m.mark+d.below(2000))
}

// someFrame is one of the handshake that is right for m or for its peer, often with a fault.
func someFrame(d *dice, m *model) api.Frame {
	p := pair{m.own, m.peer, m.path}
	if m.isB {
		p = pair{m.peer, m.own, m.path}
	}
	var f api.Frame
	switch d.below(6) {
	case 0, 1:
		f = p.join(d.one(2))
		if d.one(4) {
			f.Nonce = uint32(d.below(3))
		}
	case 2, 3:
		f = p.joined()
		if d.one(4) {
			f = p.joinedFrom(uint32(d.below(3)))
		}
	default:
		f = p.proveFrom(m.heard)
		if !m.isB || d.one(4) {
			f = p.proveFrom(uint32(d.below(3)))
		}
	}
	if d.one(3) {
		spoil(d, m, &f)
	}
	return f
}

func spoil(d *dice, m *model, f *api.Frame) {
	switch d.below(8) {
	case 0:
		f.Path = d.oneOf(0, m.path+1, m.path-256, math.MaxInt, math.MinInt)
	case 1:
		f.Kind = d.oneOf(0, 1, 6, 7, 8, 9, 10, 11, 12, -1, math.MaxInt, math.MinInt)
	case 2:
		f.Token ^= 1 << d.below(32)
	case 3:
		f.Nonce ^= 1 << d.below(32)
	case 4:
		f.Mac = bytes.Clone(f.Mac)
		if len(f.Mac) > 0 {
			f.Mac[d.below(uint64(len(f.Mac)))] ^= 1 << d.below(8)
		}
	case 5:
		f.Mac = f.Mac[:d.below(uint64(len(f.Mac)+1))]
	case 6:
		f.Mac = append(bytes.Clone(f.Mac), byte(d.below(2)))
	case 7:
		f.Mac = nil
	}
}

// twins is a Half beside its model, and how often what was come to.
type twins struct {
	h     *join.Half
	m     *model
	count *counts
}

type counts struct {
	states [5]int
	tries  int
}

// someTwins makes both of the same arguments; all counts of one side are kept together.
func someTwins(d *dice, sides *[2]counts) twins {
	side := d.oneOf(0, 1, 0, 1, -1, -2, 3, math.MaxInt, math.MinInt)
	path := d.oneOf(1, 2, 7, 1, 2, 7, 0, 255, 256, 257, -1, -256, math.MaxInt, math.MinInt)
	own, peer := someKey(d), someKey(d)
	retries := d.oneOf(1, 1, 2, 2, 3, 0, -1, 8, 15, 16, 17, math.MaxInt, math.MinInt)
	return twins{join.New(side, path, own, peer, retries), newModel(side, path, own, peer, retries), &sides[side&1]}
}

func someKey(d *dice) uint64 {
	return d.number(7, 9, 0, 1<<63, math.MaxUint64, d.below(1<<40))
}

// call makes one call of both, and fails unless they answer the same and stand the same behind it.
func (w twins) call(t *testing.T, d *dice, what uint64) {
	t.Helper()
	before := w.m.state
	var f, g api.Frame
	var ok, want bool
	now := someTime(d, w.m)
	switch what {
	case 0, 1:
		backup := d.one(2)
		f, ok = w.h.Start(now, backup)
		g, want = w.m.start(now, backup)
	case 2, 3, 4:
		in := someFrame(d, w.m)
		f, ok = w.h.Hear(now, in)
		g, want = w.m.hear(now, in)
	case 5:
		if d.one(5) {
			ok, want = w.h.Leave(), w.m.leave()
		}
	default:
		f, ok = w.h.Tick(now)
		g, want = w.m.tick(now)
		if want {
			w.count.tries++
		}
	}
	if ok != want || !same(f, g) {
		t.Fatalf("%+v %v, want %+v %v, of %+v", f, ok, g, want, w.m)
	}
	if w.h.State() != w.m.state || w.h.Backup() != w.m.backup {
		t.Fatalf("state %d backup %v, want %+v", w.h.State(), w.h.Backup(), w.m)
	}
	if w.m.state != before {
		w.count.states[w.m.state]++
	}
}

// P11.1 to P11.5, P11.7: rows of calls against the model.
func TestAgainstModel(t *testing.T) {
	rows := 4000
	if testing.Short() {
		rows = 400
	}
	d := dice(11)
	var sides [2]counts
	for range rows {
		w := someTwins(&d, &sides)
		lonely := d.one(2) // nearly all that happens is Ticks
		for range 40 {
			what := d.below(10)
			if lonely && !d.one(4) {
				what = 9
			}
			w.call(t, &d, what)
		}
	}
	for side, c := range sides {
		for state, n := range c.states {
			if n < rows/20 && state != join.Answered-side {
				t.Errorf("side %d has come to the state %d only %d times", side, state, n)
			}
		}
		if c.tries < rows/2 {
			t.Errorf("side %d has tried again only %d times", side, c.tries)
		}
	}
}

// meeting is two Halves, and all frames that ever went out between them.
type meeting struct {
	a, b   *join.Half
	toA    []api.Frame
	toB    []api.Frame
	joined bool // A has heard an answer to its JOIN
	proved bool // B has heard the answer to that
}

func (m *meeting) sentByA(f api.Frame, ok bool) {
	if ok {
		m.toB = append(m.toB, f)
	}
}

func (m *meeting) sentByB(f api.Frame, ok bool) {
	if ok {
		m.toA = append(m.toA, f)
	}
}

func (m *meeting) hearAtA(now uint64, f api.Frame) {
	m.joined = true
	m.sentByA(m.a.Hear(now, f))
}

func (m *meeting) hearAtB(now uint64, f api.Frame) {
	m.proved = m.proved || f.Kind == api.KindProve
	m.sentByB(m.b.Hear(now, f))
}

// P11.6: it comes right, however often each frame is heard besides, in whatever order, and whichever come again by Ticks.
func TestComesRight(t *testing.T) {
	rows := 1500
	if testing.Short() {
		rows = 150
	}
	d := dice(6)
	var done, again int
	for range rows {
		p := pair{d.below(5), d.below(5), 1 + int(d.below(7))}
		m := &meeting{}
		m.a, m.b = p.halves(1 + int(d.below(16)))
		now := d.below(1 << 40)
		backup := d.one(2)
		m.sentByA(m.a.Start(now, backup))
		for range 60 {
			a, b := m.a.State(), m.b.State()
			switch d.below(4) {
			case 0:
				now += d.below(4000)
				n := len(m.toA) + len(m.toB)
				m.sentByA(m.a.Tick(now))
				m.sentByB(m.b.Tick(now))
				again += len(m.toA) + len(m.toB) - n
			case 1:
				if len(m.toA) > 0 {
					m.hearAtA(now, m.toA[d.below(uint64(len(m.toA)))])
				}
			default:
				m.hearAtB(now, m.toB[d.below(uint64(len(m.toB)))])
			}
			if a != join.None && m.a.State() == join.None || b != join.None && m.b.State() == join.None {
				break // a Tick has brought one back to None
			}
			if (m.a.State() == join.Joined) != m.joined || (m.b.State() == join.Joined) != m.proved {
				t.Fatalf("A %d, heard %v; B %d, heard %v", m.a.State(), m.joined, m.b.State(), m.proved)
			}
			if m.proved && (m.a.Backup() != backup || m.b.Backup() != backup) {
				t.Fatalf("backup %v: %v %v", backup, m.a.Backup(), m.b.Backup())
			}
		}
		if m.proved {
			done++
		}
	}
	if done < rows/2 || again < rows {
		t.Errorf("%d of %d came right, %d tries were made again", done, rows, again)
	}
}

// P11.6: each order in which the three frames may be heard besides, up to four times in all ahead of each that counts.
func TestComesRightInAnyOrder(t *testing.T) {
	p := example
	asides := []func(a, b *join.Half){
		func(a, b *join.Half) { b.Hear(0, p.join(true)) },
		func(a, b *join.Half) { a.Hear(0, p.joined()) },
		func(a, b *join.Half) { b.Hear(0, p.prove()) },
		func(a, b *join.Half) { a.Hear(0, p.join(true)) },
		func(a, b *join.Half) { b.Hear(0, p.joined()) },
		func(a, b *join.Half) { a.Hear(0, p.prove()) },
		func(a, b *join.Half) {},
	}
	n := len(asides)
	for code := range n * n * n * n * 4 {
		a, b := p.halves(2)
		// Which of the four moments the asides stand at, and which they are.
		at, row := code%4, code/4
		aside := func(moment int) {
			for x, i := row, 0; i < 4; i++ {
				if moment == at {
					asides[x%n](a, b)
				}
				x /= n
			}
		}
		a.Start(0, true)
		aside(0)
		b.Hear(0, p.join(true))
		aside(1)
		a.Hear(0, p.joined())
		aside(2)
		b.Hear(0, p.prove())
		aside(3)
		if a.State() != join.Joined || b.State() != join.Joined || !a.Backup() || !b.Backup() {
			t.Fatalf("row %d at %d: A %d, B %d", row, at, a.State(), b.State())
		}
	}
}
