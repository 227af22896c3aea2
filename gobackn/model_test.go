package gobackn_test

import (
	"reflect"
	"slices"

	"braid/api"
)

// piece is a chunk of the model's own stream.
type piece struct {
	off     uint64
	text    string
	fin     bool
	out     bool // it has gone out once
	settled bool
	under   bool
}

// reach is what v must be at least for the peer to have all of it.
func (p *piece) reach() uint64 {
	if p.fin {
		return p.off + 1
	}
	return p.off + uint64(len(p.text))
}

// model is a side as the document words it: all chunks that there ever were, each with what became of it, and the peer's bytes by their offsets.
type model struct {
	c          api.Config
	side, peer int
	err        api.Errno
	clock      uint64
	frames     []api.Frame

	pieces  []piece
	end     uint64
	closed  bool
	v, edge uint64
	strikes int
	probing bool
	mark    uint64
	last    uint64

	got      map[uint64]byte
	read     uint64
	fins     bool
	finAt    uint64
	expected uint64
}

func newModel(c api.Config, side int) *model {
	m := &model{c: c, side: side & 1, peer: 1 - side&1, got: map[uint64]byte{}}
	m.end, m.v = c.Base[m.side], c.Base[m.side]
	m.edge = m.end + uint64(c.RecvBuf)
	m.read = c.Base[m.peer]
	return m
}

func (m *model) post(f ...api.Frame) { m.frames = append(m.frames, f...) }

// What has to do with the own stream.

func (m *model) free() int { return m.c.SendBuf - int(m.end-min(m.v, m.end)) }

func (m *model) first() int {
	for i := range m.pieces {
		if !m.pieces[i].settled {
			return i
		}
	}
	return len(m.pieces)
}

func (m *model) row() int {
	n := 0
	for i := range m.pieces {
		if m.pieces[i].under {
			n++
		}
	}
	return n
}

func (m *model) ever() int {
	n := 0
	for i := range m.pieces {
		if m.pieces[i].out {
			n++
		}
	}
	return n
}

func (m *model) high() uint64 {
	high := m.c.Base[m.side]
	for _, p := range m.pieces {
		if p.out {
			high = p.off + uint64(len(p.text))
		}
	}
	return high
}

// most is the greatest v that a DACK may tell.
func (m *model) most() uint64 {
	if n := len(m.pieces); m.closed && m.pieces[n-1].out {
		return m.high() + 1
	}
	return m.high()
}

func (m *model) mayGo(i int) bool {
	if p := m.pieces[i]; !p.fin {
		return p.reach() <= m.edge
	}
	for _, p := range m.pieces {
		if !p.fin && !p.out {
			return false
		}
	}
	return true
}

func (m *model) send() {
	if m.err != api.OK || m.strikes > m.c.Retries {
		return
	}
	for m.row() < 8 {
		i := m.first() + m.row()
		if i >= len(m.pieces) || !m.mayGo(i) {
			return
		}
		if m.row() == 0 && !m.probing {
			m.mark = m.clock
		}
		m.last = m.clock
		p := &m.pieces[i]
		p.out, p.under = true, true
		if p.fin {
			m.post(fin(uint64(i), p.off))
		} else {
			m.post(data(uint64(i), p.off, p.text))
		}
	}
}

func (m *model) settle(i int) {
	p := &m.pieces[i]
	if p.under {
		m.mark = m.clock
	}
	p.settled, p.under = true, false
}

func (m *model) write(text string) (int, api.Errno) {
	if m.err != api.OK {
		return 0, m.err
	}
	if m.closed {
		return 0, api.ErrClosed
	}
	text = text[:min(uint64(len(text)), uint64(m.free()), 1<<62-m.end)]
	for rest := text; rest != ""; {
		n := min(len(rest), m.c.Mss)
		m.pieces = append(m.pieces, piece{off: m.end, text: rest[:n]})
		m.end += uint64(n)
		rest = rest[n:]
	}
	m.send()
	return len(text), api.OK
}

func (m *model) close() api.Errno {
	if m.err != api.OK {
		return m.err
	}
	if m.closed {
		return api.ErrClosed
	}
	m.closed = true
	m.pieces = append(m.pieces, piece{off: m.end, fin: true})
	m.send()
	return api.OK
}

// What has to do with the peer's stream.

func (m *model) own() uint64 { return m.read + uint64(m.c.RecvBuf) }

func (m *model) gap() uint64 {
	at := m.read
	for has(m.got, at) {
		at++
	}
	return at
}

func has(got map[uint64]byte, at uint64) bool {
	_, ok := got[at]
	return ok
}

func (m *model) next() uint64 {
	if m.fins && m.finAt == m.gap() {
		return m.finAt + 1
	}
	return m.gap()
}

// apart is how many stretches of these offsets do not begin at read.
func (m *model) apart(got map[uint64]byte) int {
	n := 0
	for at := range got {
		if at != m.read && !has(got, at-1) {
			n++
		}
	}
	return n
}

func (m *model) take(off uint64, text []byte) bool {
	to := off + uint64(len(text))
	if to > m.own() || m.fins && to > m.finAt {
		return false
	}
	with := map[uint64]byte{}
	for at, x := range m.got {
		with[at] = x
	}
	for i, x := range text {
		if at := off + uint64(i); at >= m.read && !has(with, at) {
			with[at] = x
		}
	}
	if off > m.gap() && m.apart(with) > m.c.Gaps {
		return false
	}
	m.got = with
	return true
}

func (m *model) takeEnd(off uint64) bool {
	if off > m.own() || m.fins && off != m.finAt || off < m.read {
		return false
	}
	for at := range m.got {
		if at >= off {
			return false
		}
	}
	m.fins, m.finAt = true, off
	return true
}

func (m *model) readUp(n int) (string, bool, api.Errno) {
	if m.err != api.OK {
		return "", false, m.err
	}
	var b []byte
	for len(b) < n && has(m.got, m.read) {
		b = append(b, m.got[m.read])
		delete(m.got, m.read)
		m.read++
	}
	if len(b) > 0 {
		m.dack()
	}
	return string(b), len(b) == 0 && m.fins && m.finAt == m.read, api.OK
}

func (m *model) dack() { m.post(dack(m.next(), m.own())) }

func (m *model) ack() {
	if m.expected > 0 {
		m.post(ack(m.expected))
	}
}

func (m *model) done() bool {
	return m.closed && m.v > m.end && m.fins && m.finAt == m.gap()
}

// What both have to do with.

func (m *model) abort() api.Errno {
	if m.err != api.OK {
		return m.err
	}
	m.fail(api.ErrAborted)
	return api.OK
}

func (m *model) fail(why api.Errno) {
	m.err = why
	m.post(rst(m.c.Keys[m.peer]))
}

// hear takes a frame that came on path 0 and could be read.
func (m *model) hear(f api.Frame) {
	if m.err != api.OK || f.Path != 0 {
		return
	}
	if f.Kind == api.KindRst {
		if f.Token == tokenOf(m.c.Keys[m.side]) {
			m.err = api.ErrReset
		}
		return
	}
	m.strikes, m.probing = 0, false
	switch f.Kind {
	case api.KindData, api.KindFin:
		if f.Num == m.expected && (f.Kind == api.KindData && m.take(f.Off, f.Data) || f.Kind == api.KindFin && m.takeEnd(f.Off)) {
			m.expected++
		}
		if f.Num < m.expected {
			m.ack()
		}
		m.dack()
	case api.KindProbe:
		m.ack()
		m.dack()
	case api.KindAck:
		if len(f.Ranges) == 1 && f.Ranges[0].Lo == 0 && f.Ranges[0].Hi <= uint64(m.ever()) {
			for i := range f.Ranges[0].Hi {
				m.settle(int(i))
			}
		}
	case api.KindDack:
		m.hearDack(f)
	}
	m.send()
}

func (m *model) hearDack(f api.Frame) {
	if f.Off > m.most() {
		return
	}
	m.v, m.edge = max(m.v, f.Off), max(m.edge, f.Edge)
	for i := range m.pieces {
		if m.pieces[i].reach() <= m.v {
			m.settle(i)
		}
	}
}

func (m *model) time() uint64 {
	t := uint64(1000)
	for range m.strikes {
		t = min(2*t, 60000)
	}
	return t
}

func (m *model) while() uint64 {
	if (m.v < m.end || m.closed && m.v <= m.end) && m.time() < 10000 {
		return m.time()
	}
	return 10000
}

func (m *model) tick(ms int) {
	m.clock += uint64(min(max(ms, 0), 1<<30))
	if m.err != api.OK || m.done() {
		return
	}
	if (m.row() > 0 || m.probing) && m.clock-m.mark >= m.time() {
		m.strikes++
		m.probing = false
		for i := range m.pieces {
			m.pieces[i].under = false
		}
	}
	if m.row() == 0 && !m.probing && (m.strikes > m.c.Retries || m.clock-m.last >= m.while()) {
		m.post(probe(0))
		m.probing, m.mark, m.last = true, m.clock, m.clock
	}
	if m.strikes > 2*m.c.Retries {
		m.fail(api.ErrDead)
		return
	}
	m.send()
}

func (m *model) stat() api.Stat {
	inflight := m.row()
	if m.probing {
		inflight++
	}
	return api.Stat{
		Err: m.err, Closed: m.closed, Done: m.done(), Clock: m.clock,
		Acked: m.v, High: m.high(), End: m.end, Edge: m.edge, Free: m.free(),
		Next: m.next(), Own: m.own(), Ready: int(m.gap() - m.read), Stored: len(m.got), Holes: m.apart(m.got),
		Paths: []api.PathStat{{State: 3, Strikes: m.strikes, Inflight: inflight, Window: api.Window{Cwnd: 8192, Thresh: 8192}, Rto: m.time()}},
	}
}

// inOrder tells whether no chunk is under way while one ahead of it, not settled, is not (P12.10).
func (m *model) inOrder() bool {
	waiting := func(p piece) bool { return !p.settled && !p.under }
	i := slices.IndexFunc(m.pieces, waiting)
	return i < 0 || !slices.ContainsFunc(m.pieces[i:], func(p piece) bool { return p.under })
}

func same(a, b any) bool { return reflect.DeepEqual(a, b) }
