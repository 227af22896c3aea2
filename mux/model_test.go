package mux_test

import (
	"slices"

	"braid/api"
	"braid/credit"
	"braid/fair"
	"braid/muxwire"
)

// dice gives the same row of numbers in every run.
type dice uint64

func (d *dice) below(n int) int {
	*d = *d*6364136223846793005 + 1442695040888963407
	return int(uint64(*d) >> 33 % uint64(n))
}

func (d *dice) text(n int) []byte {
	b := make([]byte, n)
	for i := range b {
		b[i] = byte('a' + d.below(26))
	}
	return b
}

// line is all that ever became of a stream; it stays when the stream is forgotten.
type line struct {
	api.MuxView        // but for Waiting, Ready and Code
	own, turned, taken bool
	unwanted           bool
	accepted, sent     []byte // all that was accepted, and what of it went out
	waits              []byte
	came               []byte
	endTold, resetTold bool
	codes              []uint64 // of each RESET and STOP
	closed             bool
}

func (l *line) over() bool { return l.Sending > 1 && l.Getting > 1 }

func (l *line) forgotten() bool {
	return l.over() && (l.own || l.turned || l.taken) && (l.Deaf || l.endTold || l.resetTold)
}

// byBook is a second reckoning: the chapter word by word, which looks at all streams behind each step, and keeps those that are forgotten.
type byBook struct {
	side  int
	hold  int
	most  int // streams that the peer may have open
	book  *credit.Book
	turns *fair.Fair
	fed   []byte
	lines []*line // in the order in which they were opened
	stat  api.MuxStat
	code  uint64
	row   []api.MuxFrame
	ready []byte
	heard []uint64 // PONGs
}

func newByBook(side int, c api.MuxConfig) *byBook {
	b, _ := credit.New(side, c.Own, c.Peer)
	return &byBook{side: side & 1, hold: c.Hold, most: c.Own.Streams, book: b, turns: fair.New(c.Quantum)}
}

func (b *byBook) line(id uint64) *line {
	for _, l := range b.lines {
		if l.Stream == id {
			return l
		}
	}
	return nil
}

func (b *byBook) own(id uint64) bool { return id%2 == uint64(1-b.side) }

// settle does what is done 'as soon as', for whatever stream.
func (b *byBook) settle() {
	for _, l := range b.lines {
		if l.over() && !l.closed {
			b.book.Close(l.Stream)
			l.closed = true
		}
		for _, v := range b.turns.View() {
			if v.Id == l.Stream {
				if more := min(uint64(len(l.waits)), b.book.Left(l.Stream)) - uint64(v.Waiting); more > 0 {
					b.turns.More(l.Stream, int(more))
				}
			}
		}
	}
}

func (b *byBook) queue(f api.MuxFrame) { b.row = append(b.row, f) }

func (b *byBook) rooms(notes []api.RoomNote) {
	for _, n := range notes {
		b.queue(room(n.Stream, n.Limit))
	}
}

// first is the error that stands first in the table, whose numbers rise.
func first(l ...api.Errno) api.Errno { return slices.Min(append(l, 1<<20)) }

func none(e api.Errno) bool { return e == 1<<20 }

func when(applies bool, e api.Errno) api.Errno {
	if applies {
		return e
	}
	return 1 << 20
}

// fault is that of a call on a stream, which has those of its own.
func (b *byBook) fault(id uint64, of func(l *line) []api.Errno) (*line, api.Errno) {
	l := b.line(id)
	there := l != nil && !l.forgotten()
	e := []api.Errno{when(b.stat.Broken != 0, brokenErr), when(!there, streamErr)}
	if there {
		e = append(e, of(l)...)
	}
	return l, first(e...)
}

func (b *byBook) open(class, share int) (uint64, api.Errno) {
	id, ok := b.book.Next()
	e := first(when(b.stat.Broken != 0, brokenErr), when(class < 0 || class > 7 || share < 1 || share > 255, classErr), when(b.stat.Gone, awayErr), when(!ok, fullErr))
	if !none(e) {
		return 0, e
	}
	b.add(id, class, share)
	b.stat.Opened = id
	b.queue(opens(id, class, share))
	return id, api.OK
}

func (b *byBook) add(id uint64, class, share int) *line {
	b.book.Open(id)
	b.turns.Add(id, class, share)
	l := &line{MuxView: api.MuxView{Stream: id, Class: class, Share: share}, own: b.own(id)}
	b.lines = append(b.lines, l)
	return l
}

func (b *byBook) accept() (uint64, bool) {
	var least *line
	for _, l := range b.lines {
		if !l.own && !l.taken && !l.turned && (least == nil || l.Stream < least.Stream) {
			least = l
		}
	}
	if least == nil {
		return 0, false
	}
	least.taken = true
	return least.Stream, true
}

func (b *byBook) sendFaults(shutToo bool) func(l *line) []api.Errno {
	return func(l *line) []api.Errno {
		done := l.Sending == api.HalfEnded || l.Sending == api.HalfReset || shutToo && l.Sending == api.HalfShut
		return []api.Errno{when(done && !l.unwanted, shutErr), when(l.unwanted, stopErr)}
	}
}

func (b *byBook) write(id uint64, p []byte) (int, api.Errno) {
	l, e := b.fault(id, b.sendFaults(true))
	if !none(e) {
		return 0, e
	}
	n := min(b.hold-len(l.waits), len(p))
	l.accepted = append(l.accepted, p[:n]...)
	l.waits = l.accepted[len(l.sent):]
	b.settle()
	return n, api.OK
}

func (b *byBook) close(id uint64) api.Errno {
	l, e := b.fault(id, b.sendFaults(true))
	if !none(e) {
		return e
	}
	l.Sending = api.HalfShut
	if len(l.waits) == 0 {
		b.end(l)
	}
	b.settle()
	return api.OK
}

func (b *byBook) end(l *line) {
	l.Sending = api.HalfEnded
	b.turns.Remove(l.Stream)
	b.queue(end(l.Stream))
}

func (b *byBook) giveUp(l *line, code uint64) {
	l.Sending = api.HalfReset
	l.waits = nil
	b.turns.Remove(l.Stream)
	b.queue(reset(l.Stream, min(code, top)))
}

func (b *byBook) reset(id, code uint64) api.Errno {
	l, e := b.fault(id, b.sendFaults(false))
	if !none(e) {
		return e
	}
	b.giveUp(l, code)
	b.settle()
	return api.OK
}

func (b *byBook) read(id uint64, n int) ([]byte, bool, api.Errno) {
	l, e := b.fault(id, func(l *line) []api.Errno {
		return []api.Errno{when(l.Deaf, deafErr), when(l.Getting == api.HalfReset, resetErr)}
	})
	if e == resetErr {
		l.resetTold = true
	}
	if !none(e) {
		return nil, false, e
	}
	p := l.came[:min(len(l.came), max(n, 0))]
	l.came = l.came[len(p):]
	due, _ := b.book.Use(id, uint64(len(p)))
	b.rooms(due)
	last := l.Getting == api.HalfEnded && len(l.came) == 0 && len(p) == 0
	l.endTold = l.endTold || last
	b.settle()
	return p, last, api.OK
}

func (b *byBook) deafen(l *line, code uint64) {
	l.Deaf = true
	l.came = nil
	due, _ := b.book.Waste(l.Stream)
	b.rooms(due)
	if l.Getting == api.HalfOpen {
		b.queue(stop(l.Stream, min(code, top)))
	}
}

func (b *byBook) stop(id, code uint64) api.Errno {
	l, e := b.fault(id, func(l *line) []api.Errno { return []api.Errno{when(l.Deaf, deafErr)} })
	if !none(e) {
		return e
	}
	b.deafen(l, code)
	b.settle()
	return api.OK
}

func (b *byBook) ping(n uint64) api.Errno {
	if b.stat.Broken != 0 {
		return brokenErr
	}
	b.queue(ping(min(n, top)))
	return api.OK
}

func (b *byBook) pongs() []uint64 {
	l := b.heard
	b.heard = nil
	return l
}

func (b *byBook) away(code uint64) api.Errno {
	if b.stat.Broken != 0 {
		return brokenErr
	}
	if !b.stat.Away {
		b.stat.Away, b.code = true, min(code, top)
		b.queue(away(b.stat.Heard, b.code))
	}
	return api.OK
}

func (b *byBook) feed(p []byte) api.Errno {
	if b.stat.Broken != 0 {
		return brokenErr
	}
	b.fed = append(b.fed, p...)
	for {
		f, n, e := muxwire.Decode(b.fed)
		if e == api.ErrMuxShort {
			return api.OK
		}
		if e == api.OK {
			e = b.rule(f)
		}
		if e != api.OK {
			b.stat.Broken = e
			b.row, b.ready = nil, nil
			return brokenErr
		}
		b.fed = b.fed[n:]
		b.hear(f)
		b.settle()
	}
}

// rule is the one that a frame breaks; nothing is changed by the asking.
func (b *byBook) rule(f api.MuxFrame) api.Errno {
	l := b.line(f.Stream)
	switch f.Kind {
	case api.MuxOpen:
		return b.openRule(f.Stream)
	case api.MuxAway:
		if f.Stream > b.stat.Opened {
			return streamErr
		}
		return api.OK
	case api.MuxPing, api.MuxPong:
		return api.OK
	}
	switch {
	case f.Kind == api.MuxRoom && f.Stream == 0:
		return api.OK
	case l == nil:
		return streamErr
	case f.Kind == api.MuxRoom || f.Kind == api.MuxStop:
		return api.OK
	case l.Getting != api.HalfOpen:
		return shutErr
	case f.Kind == api.MuxBytes && uint64(len(f.Data)) > b.takes(f.Stream):
		return api.ErrCreditOver
	}
	return api.OK
}

func (b *byBook) openRule(id uint64) api.Errno {
	if b.own(id) || id != b.nextOfPeer() {
		return api.ErrCreditId
	}
	if b.peersOpen() >= b.most {
		return api.ErrCreditMany
	}
	return api.OK
}

func (b *byBook) nextOfPeer() uint64 {
	id := uint64(2 - b.side)
	for _, l := range b.lines {
		if !l.own {
			id += 2
		}
	}
	return id
}

func (b *byBook) peersOpen() int {
	n := 0
	for _, l := range b.lines {
		if !l.own && !l.over() {
			n++
		}
	}
	return n
}

// takes is how many bytes may come on a stream now.
func (b *byBook) takes(id uint64) uint64 {
	least := uint64(1 << 63)
	for _, v := range b.book.View() {
		if v.Stream == 0 || v.Stream == id {
			least = min(least, v.Told-v.Came)
		}
	}
	return least
}

// hear does what a frame says that breaks no rule.
func (b *byBook) hear(f api.MuxFrame) {
	l := b.line(f.Stream)
	switch f.Kind {
	case api.MuxOpen:
		l := b.add(f.Stream, f.Class, f.Share)
		b.stat.Heard = f.Stream
		if b.stat.Away {
			l.turned = true
			b.deafen(l, b.code)
			b.giveUp(l, b.code)
		}
	case api.MuxBytes:
		due, _ := b.book.Take(f.Stream, uint64(len(f.Data)))
		b.rooms(due)
		if !l.Deaf {
			l.came = append(slices.Clone(l.came), f.Data...)
		}
	case api.MuxEnd:
		l.Getting = api.HalfEnded
	case api.MuxReset:
		l.Getting = api.HalfReset
		l.came = nil
		l.codes = append(l.codes, f.N)
		due, _ := b.book.Waste(f.Stream)
		b.rooms(due)
	case api.MuxStop:
		l.codes = append(l.codes, f.N)
		if l.Sending < 2 {
			b.giveUp(l, f.N)
			l.unwanted = true
		}
	case api.MuxRoom:
		if l == nil || !l.over() {
			b.book.Raise(f.Stream, f.N)
		}
	case api.MuxPing:
		b.queue(pong(f.N))
	case api.MuxPong:
		b.heard = append(b.heard, f.N)
	case api.MuxAway:
		b.stat.Gone = true
	}
}

func (b *byBook) out(most int) []byte {
	if most < 1 || b.stat.Broken != 0 {
		return nil
	}
	for len(b.ready) < most {
		f, ok := b.next()
		if !ok {
			break
		}
		p, _ := muxwire.Encode(f)
		b.ready = append(slices.Clone(b.ready), p...)
	}
	p := b.ready[:min(most, len(b.ready))]
	b.ready = b.ready[len(p):]
	return p
}

func (b *byBook) next() (api.MuxFrame, bool) {
	if len(b.row) > 0 {
		f := b.row[0]
		b.row = b.row[1:]
		return f, true
	}
	all := b.book.Left(0)
	if all == 0 {
		return api.MuxFrame{}, false
	}
	t, ok := b.turns.Next(int(min(all, 16384)))
	if !ok {
		return api.MuxFrame{}, false
	}
	l := b.line(t.Id)
	p := l.waits[:t.N]
	l.sent = append(l.sent, p...)
	l.waits = l.waits[t.N:]
	b.book.Spend(t.Id, uint64(t.N))
	if l.Sending == api.HalfShut && len(l.waits) == 0 {
		b.end(l)
	}
	b.settle()
	return api.MuxFrame{Kind: api.MuxBytes, Stream: t.Id, Data: p}, true
}

func (b *byBook) look() api.MuxStat {
	s := b.stat
	s.Out = len(b.ready)
	for _, l := range b.lines {
		if !l.forgotten() {
			v := l.MuxView
			v.Waiting, v.Ready = len(l.waits), len(l.came)
			if len(l.codes) > 0 {
				v.Code = l.codes[0]
			}
			s.Streams = append(s.Streams, v)
		}
	}
	slices.SortFunc(s.Streams, func(a, b api.MuxView) int { return int(a.Stream) - int(b.Stream) })
	return s
}
