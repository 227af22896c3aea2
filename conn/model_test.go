package conn_test

import (
	"cmp"
	"slices"

	"braid/api"
	"braid/cong"
	"braid/join"
	"braid/rtt"
	"braid/sched"
)

// piece is a chunk of the model's own stream.
type piece struct {
	off  uint64
	text string
	fin  bool
	out  bool // it has gone out once
	held bool
	on   map[int]bool
}

// reach is what v must be at least for the peer to have all of it.
func (p *piece) reach() uint64 {
	if p.fin {
		return p.off + 1
	}
	return p.off + uint64(len(p.text))
}

// lane is a path of the model: all numbered frames that ever went out on it, and those that are under way.
type lane struct {
	half    *join.Half
	est     *rtt.Est
	sent    []api.Item
	under   map[uint64]bool
	heard   bool // some number was
	top     uint64
	line    uint64
	last    uint64
	mark    uint64
	strikes int
	seen    map[uint64]bool
	backup  bool
}

func (l *lane) fresh() {
	half, seen, backup := l.half, l.seen, l.backup
	*l = lane{half: half, seen: seen, backup: backup, est: rtt.New(), under: map[uint64]bool{}}
}

// model is a side as the document words it: all chunks that there ever were, each with what became of it, and the peer's bytes by their offsets. The windows, the time there and back, the decisions and the handshake are asked of the layers that have them.
type model struct {
	c          api.Config
	side, peer int
	err        api.Errno
	clock      uint64
	frames     []api.Frame
	lanes      []lane
	group      *cong.Group
	sched      *sched.Sched
	dropped    int // decisions

	pieces  []piece
	end     uint64
	closed  bool
	v, edge uint64

	got   map[uint64]byte
	read  uint64
	fins  bool
	finAt uint64
}

func newModel(c api.Config, side int) *model {
	m := &model{c: c, side: side & 1, peer: 1 - side&1, got: map[uint64]byte{}}
	m.end, m.v = c.Base[m.side], c.Base[m.side]
	m.edge = m.end + uint64(c.RecvBuf)
	m.read = c.Base[m.peer]
	kind := c.Sched
	if kind == api.Single {
		kind = api.MinRtt
	}
	m.sched = sched.New(kind, c.Weights, c.Picks[m.side])
	m.group = cong.New(c.Paths)
	for i := range c.Paths {
		l := lane{half: join.New(side, i, c.Keys[m.side], c.Keys[m.peer], c.Retries), seen: map[uint64]bool{}}
		l.fresh()
		m.lanes = append(m.lanes, l)
	}
	return m
}

func (m *model) post(f ...api.Frame) { m.frames = append(m.frames, f...) }

// What has to do with the own stream.

func (m *model) free() int { return m.c.SendBuf - int(m.end-min(m.v, m.end)) }

func (m *model) high() uint64 {
	high := m.c.Base[m.side]
	for _, p := range m.pieces {
		if p.out {
			high = max(high, p.off+uint64(len(p.text)))
		}
	}
	return high
}

// most is the greatest v that a DACK may tell.
func (m *model) most() uint64 {
	if n := len(m.pieces); m.closed && m.pieces[n-1].out {
		return m.high() + 1
	}
	return m.high()
}

// there tells whether a chunk is not acknowledged by v yet.
func (m *model) there(p *piece) bool { return p.reach() > m.v }

func (m *model) mayGo(p *piece) bool {
	if !p.fin {
		return p.reach() <= m.edge
	}
	for i := range m.pieces {
		if q := &m.pieces[i]; !q.fin && !q.out && m.there(q) {
			return false
		}
	}
	return true
}

// lowest is the lowest chunk that may go out, is not held, and is under way on none of these paths.
func (m *model) lowest(paths ...int) (api.Chunk, bool) {
	for i := range m.pieces {
		p := &m.pieces[i]
		if !m.there(p) || p.held || !m.mayGo(p) || slices.ContainsFunc(paths, func(path int) bool { return p.on[path] }) {
			continue
		}
		c := api.Chunk{Off: p.off, Len: len(p.text), Fin: p.fin}
		for path := range 8 {
			if p.on[path] {
				c.On = append(c.On, path)
			}
		}
		return c, true
	}
	return api.Chunk{}, false
}

func (m *model) at(off uint64) *piece {
	for i := range m.pieces {
		if p := &m.pieces[i]; p.off == off && m.there(p) {
			return p
		}
	}
	return nil
}

// What has to do with paths.

func (m *model) joined(i int) bool { return m.lanes[i].half.State() == join.Joined }

func (m *model) usable(i int) bool { return m.joined(i) && m.lanes[i].strikes <= m.c.Retries }

func (m *model) joinedPaths() []int {
	var l []int
	for i := range m.lanes {
		if m.joined(i) {
			l = append(l, i)
		}
	}
	return l
}

// open tells whether the side hears of a path at all.
func (m *model) open(i int) bool { return m.err == api.OK && i >= 0 && i < len(m.lanes) }

func (m *model) view() api.View {
	v := api.View{Edge: m.edge, Mss: m.c.Mss}
	v.Want, v.Has = m.lowest(0, 1, 2, 3, 4, 5, 6, 7)
	for i := range m.lanes {
		p := api.PathView{Usable: m.usable(i), Backup: m.lanes[i].backup, Window: m.group.Frames(i), Inflight: len(m.lanes[i].under)}
		p.Srtt, p.Known = m.lanes[i].est.Srtt()
		p.Next, p.Has = m.lowest(i)
		v.Paths = append(v.Paths, p)
	}
	return v
}

// allowed is the guard.
func (m *model) allowed(p api.Pick) bool {
	if p.Path < 0 || p.Path >= len(m.lanes) || !m.usable(p.Path) || len(m.lanes[p.Path].under) >= m.group.Frames(p.Path) {
		return false
	}
	c := m.at(p.Off)
	return c != nil && len(c.text) == p.Len && !c.held && !c.on[p.Path] && m.mayGo(c)
}

func (m *model) send() {
	for m.err == api.OK {
		p, ok := m.sched.Next(m.view())
		if !ok {
			return
		}
		if !m.allowed(p) {
			m.dropped++
			continue
		}
		c := m.at(p.Off)
		if c.fin {
			m.number(p.Path, fin(0, c.off))
		} else {
			m.number(p.Path, data(0, c.off, c.text))
		}
		c.on[p.Path], c.out = true, true
	}
}

// number sends a frame with the next number of a path.
func (m *model) number(i int, f api.Frame) {
	l := &m.lanes[i]
	num := uint64(len(l.sent))
	if len(l.under) == 0 {
		l.mark = m.clock
	}
	l.last = m.clock
	l.sent = append(l.sent, api.Item{Num: num, Kind: f.Kind, Off: f.Off, Len: len(f.Data), At: m.clock})
	l.under[num] = true
	f.Num = num
	m.post(on(i, f))
}

func (l *lane) underWay() []api.Item {
	var items []api.Item
	for _, x := range l.sent {
		if l.under[x.Num] {
			items = append(items, x)
		}
	}
	return items
}

// lands is a chunk of an item that is under way no more: is it held?
func (m *model) lands(i int, x api.Item, held bool) {
	if x.Kind == api.KindProbe {
		return
	}
	if c := m.at(x.Off); c != nil && c.on[i] {
		delete(c.on, i)
		c.held = c.held || held
	}
}

func (m *model) tellGroup() {
	for i := range m.lanes {
		m.group.Take(i, m.usable(i))
		if srtt, known := m.lanes[i].est.Srtt(); known {
			m.group.Rtt(i, srtt)
		}
	}
}

func (m *model) hearAck(i int, ranges []api.Range) {
	l := &m.lanes[i]
	told := func(num uint64) bool {
		return slices.ContainsFunc(ranges, func(r api.Range) bool { return r.Lo <= num && num < r.Hi })
	}
	chunks, found := 0, false
	var at uint64
	for _, x := range l.sent {
		if !told(x.Num) {
			continue
		}
		l.heard, l.top = true, max(l.top, x.Num)
		if !l.under[x.Num] {
			continue
		}
		delete(l.under, x.Num)
		found, at = true, x.At
		if x.Kind != api.KindProbe {
			chunks++
		}
		m.lands(i, x, true)
	}
	if found {
		l.est.Sample(m.clock - at)
		l.mark = m.clock
	}
	cut := false
	for _, x := range l.underWay() {
		if l.heard && x.Num+3 <= l.top {
			delete(l.under, x.Num)
			cut = cut || x.Num >= l.line
			m.lands(i, x, false)
		}
	}
	m.tellGroup()
	m.group.Acked(i, chunks)
	if cut {
		l.line = uint64(len(l.sent))
		m.group.Cut(i)
	}
}

func (m *model) left(i int) {
	l := &m.lanes[i]
	l.half.Leave()
	for _, x := range l.underWay() {
		m.lands(i, x, false)
	}
	l.fresh()
}

func (m *model) mayLeave(i int) bool {
	return m.open(i) && m.joined(i) && len(m.joinedPaths()) > 1
}

// stretches is the numbers that have come on a path, as an ACK could tell them.
func (l *lane) stretches() []api.Range {
	var nums []uint64
	for num := range l.seen {
		nums = append(nums, num)
	}
	slices.SortFunc(nums, cmp.Compare[uint64])
	var list []api.Range
	for _, num := range nums {
		if n := len(list); n > 0 && list[n-1].Hi == num {
			list[n-1].Hi++
		} else {
			list = append(list, api.Range{Lo: num, Hi: num + 1})
		}
	}
	return list
}

func (m *model) answer(i int, num uint64, taken bool) {
	l := &m.lanes[i]
	if taken {
		l.seen[num] = true
		for s := l.stretches(); len(s) > 32; s = l.stretches() {
			for x := s[0].Lo; x < s[0].Hi; x++ {
				delete(l.seen, x)
			}
		}
		s := l.stretches()
		m.post(api.Frame{Kind: api.KindAck, Path: i, Ranges: s[max(len(s)-8, 0):]})
	}
	m.dack(i)
}

// What has to do with the peer's stream.

func (m *model) own() uint64 { return m.read + uint64(m.c.RecvBuf) }

func (m *model) gap() uint64 {
	at := m.read
	for has(m.got, at) {
		at++
	}
	return at
}

func has(got map[uint64]byte, at uint64) bool {
	_, ok := got[at]
	return ok
}

func (m *model) next() uint64 {
	if m.fins && m.finAt == m.gap() {
		return m.finAt + 1
	}
	return m.gap()
}

// apart is how many stretches of these offsets do not begin at read.
func (m *model) apart(got map[uint64]byte) int {
	n := 0
	for at := range got {
		if at != m.read && !has(got, at-1) {
			n++
		}
	}
	return n
}

func (m *model) take(off uint64, text []byte) bool {
	to := off + uint64(len(text))
	if to > m.own() || m.fins && to > m.finAt {
		return false
	}
	with := map[uint64]byte{}
	for at, x := range m.got {
		with[at] = x
	}
	for i, x := range text {
		if at := off + uint64(i); at >= m.read && !has(with, at) {
			with[at] = x
		}
	}
	if off > m.gap() && m.apart(with) > m.c.Gaps {
		return false
	}
	m.got = with
	return true
}

func (m *model) takeEnd(off uint64) bool {
	if off > m.own() || m.fins && off != m.finAt || off < m.read {
		return false
	}
	for at := range m.got {
		if at >= off {
			return false
		}
	}
	m.fins, m.finAt = true, off
	return true
}

func (m *model) dack(i int) { m.post(on(i, dack(m.next(), m.own()))) }

func (m *model) done() bool {
	return m.closed && m.v > m.end && m.fins && m.finAt == m.gap()
}
