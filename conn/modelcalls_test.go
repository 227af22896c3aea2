package conn_test

import (
	"reflect"

	"braid/api"
)

// The calls of the model.

func (m *model) write(text string) (int, api.Errno) {
	if m.err != api.OK {
		return 0, m.err
	}
	if m.closed {
		return 0, api.ErrClosed
	}
	text = text[:min(uint64(len(text)), uint64(m.free()), 1<<62-m.end)]
	for rest := text; rest != ""; {
		n := min(len(rest), m.c.Mss)
		m.pieces = append(m.pieces, piece{off: m.end, text: rest[:n], on: map[int]bool{}})
		m.end += uint64(n)
		rest = rest[n:]
	}
	m.send()
	return len(text), api.OK
}

func (m *model) close() api.Errno {
	if m.err != api.OK {
		return m.err
	}
	if m.closed {
		return api.ErrClosed
	}
	m.closed = true
	m.pieces = append(m.pieces, piece{off: m.end, fin: true, on: map[int]bool{}})
	m.send()
	return api.OK
}

func (m *model) readUp(n int) (string, bool, api.Errno) {
	if m.err != api.OK {
		return "", false, m.err
	}
	var b []byte
	for len(b) < n && has(m.got, m.read) {
		b = append(b, m.got[m.read])
		delete(m.got, m.read)
		m.read++
	}
	if len(b) > 0 {
		m.dack(m.dackPath())
	}
	return string(b), len(b) == 0 && m.fins && m.finAt == m.read, api.OK
}

func (m *model) dackPath() int {
	for _, i := range m.joinedPaths() {
		if m.usable(i) {
			return i
		}
	}
	return m.joinedPaths()[0]
}

func (m *model) abort() api.Errno {
	if m.err != api.OK {
		return m.err
	}
	m.fail(api.ErrAborted)
	return api.OK
}

func (m *model) fail(why api.Errno) {
	m.err = why
	for _, i := range m.joinedPaths() {
		m.post(on(i, rst(m.c.Keys[m.peer])))
	}
}

func (m *model) join(i int, backup bool) {
	if !m.open(i) {
		return
	}
	if f, ok := m.lanes[i].half.Start(m.clock, backup); ok {
		m.post(f)
		m.lanes[i].backup = backup
	}
}

func (m *model) prio(i int, backup bool) {
	if m.open(i) && m.joined(i) {
		m.post(on(i, prio(backup)))
	}
}

func (m *model) leave(i int) {
	if m.mayLeave(i) {
		m.left(i)
		m.post(on(m.joinedPaths()[0], gone(i)))
		m.send()
	}
}

// hear takes a frame that came on a path and could be read.
func (m *model) hear(i int, f api.Frame) {
	if !m.open(i) || f.Path != i {
		return
	}
	if f.Kind == api.KindRst {
		if f.Token == tokenOf(m.c.Keys[m.side]) {
			m.err = api.ErrReset
		}
		return
	}
	l := &m.lanes[i]
	if f.Kind == api.KindJoin || f.Kind == api.KindJoined || f.Kind == api.KindProve {
		if answer, ok := l.half.Hear(m.clock, f); ok {
			m.post(answer)
			if f.Kind == api.KindJoin {
				l.backup = f.Backup
			}
		}
	}
	if !m.joined(i) {
		return
	}
	l.strikes = 0
	l.est.Calm()
	switch f.Kind {
	case api.KindData:
		m.answer(i, f.Num, m.take(f.Off, f.Data))
	case api.KindFin:
		m.answer(i, f.Num, m.takeEnd(f.Off))
	case api.KindProbe:
		m.answer(i, f.Num, true)
	case api.KindAck:
		m.hearAck(i, f.Ranges)
	case api.KindDack:
		if f.Off <= m.most() {
			m.v, m.edge = max(m.v, f.Off), max(m.edge, f.Edge)
		}
	case api.KindPrio:
		l.backup = f.Backup
	case api.KindGone:
		if m.mayLeave(f.Which) {
			m.left(f.Which)
		}
	}
	m.send()
}

// waits tells whether this side's stream does.
func (m *model) waits() bool { return m.v < m.end || m.closed && m.v <= m.end }

func (m *model) while(i int) uint64 {
	if rto := m.lanes[i].est.Rto(); m.waits() && rto < 10000 {
		return rto
	}
	return 10000
}

func (m *model) tick(ms int) {
	m.clock += uint64(min(max(ms, 0), 1<<30))
	if m.err != api.OK || m.done() {
		return
	}
	for i := range m.lanes {
		m.tickLane(i)
	}
	for _, i := range m.joinedPaths() {
		if m.lanes[i].strikes <= 2*m.c.Retries {
			m.send()
			return
		}
	}
	m.fail(api.ErrDead)
}

func (m *model) tickLane(i int) {
	l := &m.lanes[i]
	if f, ok := l.half.Tick(m.clock); ok {
		m.post(f)
	}
	if !m.joined(i) {
		return
	}
	if len(l.under) > 0 && m.clock-l.mark >= l.est.Rto() {
		items := l.underWay()
		clear(l.under)
		for _, x := range items {
			m.lands(i, x, false)
		}
		l.strikes++
		l.est.Back()
		l.line = uint64(len(l.sent))
		m.tellGroup()
		m.group.Timeout(i)
	}
	if len(l.under) == 0 && (l.strikes > m.c.Retries || m.clock-l.last >= m.while(i)) {
		m.number(i, probe(0))
	}
}

func (m *model) stat() api.Stat {
	s := api.Stat{
		Err: m.err, Closed: m.closed, Done: m.done(), Clock: m.clock,
		Acked: m.v, High: m.high(), End: m.end, Edge: m.edge, Free: m.free(),
		Next: m.next(), Own: m.own(), Ready: int(m.gap() - m.read), Stored: len(m.got), Holes: m.apart(m.got),
	}
	for i := range m.lanes {
		l := &m.lanes[i]
		p := api.PathStat{State: l.half.State(), Backup: l.backup, Strikes: l.strikes, Inflight: len(l.under), Window: m.group.Window(i), Rto: l.est.Rto()}
		p.Srtt, p.Known = l.est.Srtt()
		s.Paths = append(s.Paths, p)
	}
	return s
}

func same(a, b any) bool { return reflect.DeepEqual(a, b) }
