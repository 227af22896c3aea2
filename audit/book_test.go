package audit_test

import (
	"bytes"
	"slices"

	"braid/api"
	"braid/sums"
	"braid/wire"
)

// page is an event, and its frame, if it can be read.
type page struct {
	api.Event
	f       api.Frame
	ok      bool
	foreign bool
}

// sends tells whether a side sends a frame that can be read, of one of these kinds; of any, if there are none.
func (p page) sends(side int, kinds ...int) bool {
	return (p.What == api.EventSent || p.What == api.EventLost) && p.Side == side && p.ok && (len(kinds) == 0 || slices.Contains(kinds, p.f.Kind))
}

// hears tells whether a side hears a frame that can be read, of one of these kinds; of any, if there are none.
func (p page) hears(side int, kinds ...int) bool {
	return p.What == api.EventHeard && p.Side == 1-side && p.ok && (len(kinds) == 0 || slices.Contains(kinds, p.f.Kind))
}

func (p page) behind() uint64 { return p.f.Off + uint64(len(p.f.Data)) }

// tells tells whether an ACK tells a number.
func (p page) tells(num uint64) bool {
	return slices.ContainsFunc(p.f.Ranges, func(r api.Range) bool { return r.Lo <= num && num < r.Hi })
}

var numbered = []int{api.KindData, api.KindFin, api.KindProbe}

// book judges by the chapter's words: each event by going through all those ahead of it.
type book struct {
	c        api.Config
	l        []page
	findings []api.Finding
}

func (b *book) single() bool { return b.c.Sched == api.Single }

func (b *book) events() []api.Event {
	var l []api.Event
	for _, p := range b.l {
		l = append(l, p.Event)
	}
	return l
}

// read is a page for an event, behind those that are there.
func (b *book) read(e api.Event) page {
	p := page{Event: e}
	if f, bad := wire.Decode(e.Bytes); bad == api.OK && f.Path == e.Path {
		p.f, p.ok = f, true
	}
	if p.What == api.EventHeard && p.ok {
		p.foreign = !slices.ContainsFunc(b.l, func(x page) bool {
			return x.sends(e.Side) && x.Path == e.Path && bytes.Equal(x.Bytes, e.Bytes)
		})
	}
	return p
}

func (b *book) add(e api.Event) []api.Finding {
	p := b.read(e)
	l := b.judge(p)
	b.l = append(b.l, p)
	b.findings = append(b.findings, l...)
	return l
}

func (b *book) judge(p page) []api.Finding {
	if p.foreign || slices.ContainsFunc(b.l, func(x page) bool { return x.foreign }) {
		return nil
	}
	var l []api.Finding
	if p.What == api.EventSent || p.What == api.EventLost {
		for rule := 1; rule <= 11; rule++ {
			if p.ok && rule > 1 && b.broken(rule, p) || !p.ok && rule == 1 {
				l = append(l, api.Finding{Place: len(b.l), Rule: rule, Side: p.Side, Path: p.Path})
			}
		}
	}
	for side := range 2 {
		if b.isSilent(side, p) {
			l = append(l, api.Finding{Place: len(b.l), Rule: 12, Side: side})
		}
	}
	return l
}

func (b *book) broken(rule int, p page) bool {
	switch rule {
	case 2:
		return slices.Contains(numbered, p.f.Kind) && p.f.Num != b.dueNumber(p)
	case 3:
		return p.f.Kind == api.KindData && p.behind() > b.edgeOf(p.Side)
	case 4:
		return p.f.Kind == api.KindData && b.other(p)
	case 5:
		return p.f.Kind == api.KindData && (len(p.f.Data) > b.c.Mss || b.cutOther(p))
	case 6:
		return b.pastEnd(p)
	case 7:
		return p.f.Kind == api.KindAck && b.acksTooMuch(p)
	case 8:
		return p.f.Kind == api.KindDack && b.dacksWrong(p)
	case 9:
		return (p.f.Kind == api.KindRst || p.f.Kind == api.KindJoin) && p.f.Token != sums.Token(b.c.Keys[1-p.Side])
	case 10:
		k := p.f.Kind
		return (k == 7 || k == 9) && p.Side == 1 || k == 8 && p.Side == 0 || b.single() && k >= 7
	}
	return b.pastReset(p)
}

// dueNumber is the number that a numbered frame must have.
func (b *book) dueNumber(p page) uint64 {
	n := uint64(0)
	if !b.single() {
		for _, x := range b.l {
			if x.sends(p.Side, numbered...) && x.Path == p.Path {
				n++
			}
		}
		return n
	}
	if p.f.Kind == api.KindProbe {
		return 0
	}
	var chunks []page
	same := func(x, y page) bool {
		return x.f.Kind == y.f.Kind && x.f.Off == y.f.Off && len(x.f.Data) == len(y.f.Data)
	}
	for _, x := range append(slices.Clone(b.l), p) {
		isNew := !slices.ContainsFunc(chunks, func(y page) bool { return same(x, y) })
		if (x.sends(p.Side, api.KindData, api.KindFin)) && isNew {
			chunks = append(chunks, x)
		}
	}
	return uint64(slices.IndexFunc(chunks, func(y page) bool { return same(p, y) }))
}

func (b *book) edgeOf(side int) uint64 {
	e := b.c.Base[side] + uint64(b.c.RecvBuf)
	for _, x := range b.l {
		if x.hears(side, api.KindDack) && x.f.Edge > e {
			e = x.f.Edge
		}
	}
	return e
}

// first is the byte that the first DATA of a side had at an offset.
func (b *book) first(side int, off uint64) (byte, bool) {
	for _, x := range b.l {
		if x.sends(side, api.KindData) && x.f.Off <= off && off < x.behind() {
			return x.f.Data[off-x.f.Off], true
		}
	}
	return 0, false
}

func (b *book) other(p page) bool {
	for i, c := range p.f.Data {
		if x, ok := b.first(p.Side, p.f.Off+uint64(i)); ok && x != c {
			return true
		}
	}
	return false
}

func (b *book) cutOther(p page) bool {
	meets := false
	for _, x := range b.l {
		if !x.sends(p.Side, api.KindData) {
			continue
		}
		if x.f.Off == p.f.Off && x.behind() == p.behind() {
			return false
		}
		meets = meets || x.f.Off < p.behind() && p.f.Off < x.behind()
	}
	return meets
}

func (b *book) pastEnd(p page) bool {
	return slices.ContainsFunc(b.l, func(x page) bool {
		switch {
		case p.f.Kind == api.KindFin && x.sends(p.Side, api.KindFin):
			return x.f.Off != p.f.Off
		case p.f.Kind == api.KindFin && x.sends(p.Side, api.KindData):
			return x.behind() > p.f.Off
		case p.f.Kind == api.KindData && x.sends(p.Side, api.KindFin):
			return p.behind() > x.f.Off
		}
		return false
	})
}

func (b *book) acksTooMuch(p page) bool {
	kinds := numbered
	if b.single() {
		kinds = numbered[:2]
		if len(p.f.Ranges) != 1 || p.f.Ranges[0].Lo > 0 {
			return true
		}
	}
	for _, r := range p.f.Ranges {
		for num := r.Lo; num < r.Hi; num++ {
			if !slices.ContainsFunc(b.l, func(x page) bool { return x.hears(p.Side, kinds...) && x.Path == p.Path && x.f.Num == num }) {
				return true
			}
		}
	}
	return false
}

func (b *book) dacksWrong(p page) bool {
	for _, x := range b.l {
		if x.sends(p.Side, api.KindDack) && (p.f.Off < x.f.Off || p.f.Edge < x.f.Edge) {
			return true
		}
	}
	gap := b.c.Base[1-p.Side]
	for b.hasHeard(p.Side, gap) {
		gap++
	}
	if slices.ContainsFunc(b.l, func(x page) bool { return x.hears(p.Side, api.KindFin) && x.f.Off == gap }) {
		gap++
	}
	return p.f.Off > gap || p.f.Edge > p.f.Off+uint64(b.c.RecvBuf)
}

func (b *book) hasHeard(side int, off uint64) bool {
	return slices.ContainsFunc(b.l, func(x page) bool { return x.hears(side, api.KindData) && x.f.Off <= off && off < x.behind() })
}

// wasReset: it has heard an RST with the token of its own key.
func (b *book) wasReset(side, upTo int) bool {
	return slices.ContainsFunc(b.l[:upTo], func(x page) bool { return x.hears(side, api.KindRst) && x.f.Token == sums.Token(b.c.Keys[side]) })
}

func (b *book) pastReset(p page) bool {
	if b.wasReset(p.Side, len(b.l)) {
		return true
	}
	for k, x := range slices.Backward(b.l) {
		if x.sends(p.Side, api.KindRst) {
			return p.f.Kind != api.KindRst || p.Path <= x.Path || k != len(b.l)-1
		}
	}
	return false
}

// owes tells whether a side owes an answer by what it hears at a place.
func (b *book) owes(side, place int) bool {
	if place < 0 || !b.l[place].hears(side, numbered...) || b.l[place].Path != 0 || b.wasReset(side, place) {
		return false
	}
	return !slices.ContainsFunc(b.l[:place], func(x page) bool {
		return x.sends(side, api.KindRst) || (x.sends(0, api.KindGone) || x.sends(1, api.KindGone)) && x.f.Which == 0
	})
}

// isSilent tells whether an event, behind those that are there, is not what a side owes.
func (b *book) isSilent(side int, p page) bool {
	n := len(b.l)
	if b.owes(side, n-1) {
		return !(p.sends(side, api.KindDack, api.KindAck) && p.Path == 0)
	}
	if b.owes(side, n-2) && b.l[n-1].sends(side, api.KindAck) && b.l[n-1].Path == 0 {
		return !(p.sends(side, api.KindDack) && p.Path == 0)
	}
	return false
}

func (b *book) report() api.AuditReport {
	r := api.AuditReport{Events: len(b.l), Findings: b.findings}
	for _, p := range b.l {
		if p.foreign {
			r.Foreign++
		}
	}
	for side := range 2 {
		for path := range b.c.Paths {
			r.Paths[side] = append(r.Paths[side], b.path(side, path))
		}
		r.Streams[side] = b.stream(side)
	}
	return r
}

func (b *book) path(side, path int) api.PathReport {
	var r api.PathReport
	for k, p := range b.l {
		if p.Path != path {
			continue
		}
		if p.Side == side {
			*[]*int{nil, &r.Sent, &r.Lost, &r.Heard, &r.Dropped, &r.Doubled, &r.Spoilt}[p.What]++
			if p.What == api.EventHeard && !p.ok {
				r.Unread++
			}
		}
		if p.sends(side, api.KindData) {
			r.Data++
			r.Bytes += len(p.f.Data)
			if slices.ContainsFunc(b.l[:k], func(x page) bool {
				return x.sends(side, api.KindData) && x.f.Off == p.f.Off && len(x.f.Data) == len(p.f.Data)
			}) {
				r.Again++
			}
		}
		if p.hears(1-side, numbered...) && !p.foreign {
			b.turn(&r, k)
		}
		if p.hears(side, api.KindAck) && !p.foreign && !b.single() {
			b.time(&r, k)
		}
	}
	return r
}

// turn counts a number that was heard again, or behind a greater one.
func (b *book) turn(r *api.PathReport, k int) {
	p := b.l[k]
	twice, late := false, false
	for _, x := range b.l[:k] {
		if x.hears(1-p.Side, numbered...) && !x.foreign && x.Path == p.Path {
			twice = twice || x.f.Num == p.f.Num
			late = late || x.f.Num > p.f.Num
		}
	}
	if twice {
		r.Twice++
	} else if late {
		r.Late++
	}
}

// time counts what an ACK tells of the time there and back.
func (b *book) time(r *api.PathReport, k int) {
	ack := b.l[k]
	hearer := 1 - ack.Side
	var best *page
	for i, x := range b.l[:k] {
		if !x.sends(hearer, numbered...) || x.Path != ack.Path || !ack.tells(x.f.Num) {
			continue
		}
		known := slices.ContainsFunc(b.l[:k], func(y page) bool {
			return y.hears(hearer, api.KindAck) && !y.foreign && y.Path == ack.Path && y.tells(x.f.Num)
		})
		if !known && (best == nil || x.f.Num > best.f.Num) {
			best = &b.l[i]
		}
	}
	if best == nil {
		return
	}
	ms := uint64(0)
	if best.Clock <= ack.Clock {
		ms = ack.Clock - best.Clock
	}
	if r.Rtts == 0 {
		r.RttMin = ms
	}
	r.Rtts++
	r.RttMin, r.RttMax, r.RttSum = min(r.RttMin, ms), max(r.RttMax, ms), r.RttSum+ms
}

func (b *book) stream(side int) api.StreamReport {
	r := api.StreamReport{High: b.c.Base[side]}
	type cut struct {
		off uint64
		n   int
	}
	cuts := make(map[cut]int)
	for _, p := range b.l {
		if p.sends(side, api.KindData) {
			if len(cuts) == 0 || p.behind() > r.High {
				r.High = p.behind()
			}
			cuts[cut{p.f.Off, len(p.f.Data)}]++
		}
		r.Ends = r.Ends || p.sends(side, api.KindFin)
	}
	r.Chunks = len(cuts)
	for off := b.c.Base[side]; ; off++ {
		c, ok := b.first(side, off)
		if !ok {
			return r
		}
		r.Bytes = append(r.Bytes, c)
	}
}
