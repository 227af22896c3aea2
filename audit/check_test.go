package audit_test

import (
	"bytes"
	"fmt"
	"slices"
	"testing"

	"braid/api"
	"braid/audit"
	"braid/sums"
	"braid/wire"
)

const (
	form   = api.RuleForm
	number = api.RuleNumber
	edge   = api.RuleEdge
	says   = api.RuleBytes
	cut    = api.RuleCut
	end    = api.RuleEnd
	acks   = api.RuleAck
	dacks  = api.RuleDack
	token  = api.RuleToken
	role   = api.RuleRole
	after  = api.RuleAfter
	silent = api.RuleSilent
)

// dice gives the same row of numbers in every run.
type dice uint64

func (d *dice) below(n int) int {
	*d = *d*6364136223846793005 + 1442695040888963407
	return int(uint64(*d) >> 33 % uint64(n))
}

// one is one of these.
func (d *dice) one(of ...int) int { return of[d.below(len(of))] }

func (d *dice) maybe(in int) bool { return d.below(in) == 0 }

func (d *dice) bytes(n int) []byte {
	b := make([]byte, n)
	for i := range b {
		b[i] = byte(d.below(256))
	}
	return b
}

// rows is how often something is tried.
func rows(n int) int {
	if testing.Short() {
		return n / 10
	}
	return n
}

// told is short enough to be printed, whatever stands in it.
func told(x any) string {
	s := fmt.Sprintf("%+v", x)
	return s[:min(len(s), 600)]
}

// config is the chapter's.
func config(sched int) api.Config {
	return api.Config{Paths: 2, Mss: 4, SendBuf: 20, RecvBuf: 12, Gaps: 4, Retries: 1, Bag: 100, Sched: sched, Keys: [2]uint64{7, 9}, Base: [2]uint64{0, 1000}}
}

// many are the schedulers of connections over many paths.
func many() []int { return []int{api.MinRtt, api.RoundRobin, api.Redundant, api.Blest, api.Replay} }

func data(num, off uint64, text string) api.Frame {
	return api.Frame{Kind: api.KindData, Num: num, Off: off, Data: []byte(text)}
}

func fin(num, off uint64) api.Frame { return api.Frame{Kind: api.KindFin, Num: num, Off: off} }

func probe(num uint64) api.Frame { return api.Frame{Kind: api.KindProbe, Num: num} }

// ack is one of these bounds: from, to, from, to ..
func ack(bounds ...uint64) api.Frame {
	f := api.Frame{Kind: api.KindAck}
	for b := range slices.Chunk(bounds, 2) {
		f.Ranges = append(f.Ranges, api.Range{Lo: b[0], Hi: b[1]})
	}
	return f
}

func dack(off, edge uint64) api.Frame { return api.Frame{Kind: api.KindDack, Off: off, Edge: edge} }

// rst is one with the token of this key.
func rst(key uint64) api.Frame { return api.Frame{Kind: api.KindRst, Token: sums.Token(key)} }

func join(key uint64) api.Frame { return api.Frame{Kind: api.KindJoin, Token: sums.Token(key)} }

func joined() api.Frame { return api.Frame{Kind: api.KindJoined, Mac: make([]byte, 8)} }

func prove() api.Frame { return api.Frame{Kind: api.KindProve, Mac: make([]byte, 20)} }

func prio() api.Frame { return api.Frame{Kind: api.KindPrio} }

func gone(which int) api.Frame { return api.Frame{Kind: api.KindGone, Which: which} }

// on is a frame on another path.
func on(path int, f api.Frame) api.Frame {
	f.Path = path
	return f
}

func coded(f api.Frame) []byte {
	b, e := wire.Encode(f)
	if e != api.OK {
		panic(fmt.Sprintf("%+v: %d", f, e))
	}
	return b
}

// event is what became of a frame that the side has sent.
func event(what, side int, f api.Frame) api.Event {
	return api.Event{What: what, Side: side, Path: f.Path, Bytes: coded(f)}
}

func sent(side int, f api.Frame) api.Event { return event(api.EventSent, side, f) }

func lost(side int, f api.Frame) api.Event { return event(api.EventLost, side, f) }

// heard is that the side's peer has heard its frame.
func heard(side int, f api.Frame) api.Event { return event(api.EventHeard, side, f) }

// raw is an event with any bytes.
func raw(what, side, path int, text string) api.Event {
	return api.Event{What: what, Side: side, Path: path, Bytes: []byte(text)}
}

func at(clock uint64, e api.Event) api.Event {
	e.Clock = clock
	return e
}

// desk is an Auditor whose answers are held against what is awaited, and against the book.
type desk struct {
	t    *testing.T
	name string
	c    api.Config
	a    *audit.Auditor
	book *book
}

func open(t *testing.T, c api.Config) *desk {
	t.Helper()
	a, e := audit.New(c)
	if e != api.OK || a == nil {
		t.Fatalf("New: %d", e)
	}
	return &desk{t: t, name: fmt.Sprintf("sched %d", c.Sched), c: c, a: a, book: &book{c: c}}
}

// shows awaits of the next event that its side has broken these rules, and no other.
func (d *desk) shows(e api.Event, broken ...int) {
	d.t.Helper()
	var want []api.Finding
	for _, r := range broken {
		want = append(want, api.Finding{Place: len(d.book.l), Rule: r, Side: e.Side, Path: e.Path})
	}
	d.adds(e, want)
}

// showsSilent awaits that besides this side was silent.
func (d *desk) showsSilent(side int, e api.Event, broken ...int) {
	d.t.Helper()
	var want []api.Finding
	for _, r := range broken {
		want = append(want, api.Finding{Place: len(d.book.l), Rule: r, Side: e.Side, Path: e.Path})
	}
	d.adds(e, append(want, api.Finding{Place: len(d.book.l), Rule: silent, Side: side}))
}

func (d *desk) adds(e api.Event, want []api.Finding) {
	d.t.Helper()
	got, bad := d.a.Add(e)
	if !slices.Equal(got, want) || bad != api.OK {
		d.t.Errorf("%s: event %d, %s: %v, %d, want %v", d.name, len(d.book.l), told(e), got, bad, want)
	}
	if byBook := d.book.add(e); !slices.Equal(want, byBook) {
		d.t.Fatalf("%s: event %d, %s: the book says %v, the test %v", d.name, len(d.book.l)-1, told(e), byBook, want)
	}
}

// fine awaits of a row of events that each of them shows nothing.
func (d *desk) fine(l ...api.Event) {
	d.t.Helper()
	for _, e := range l {
		d.shows(e)
	}
}

// refuses awaits that an event may not be, and that nothing happens by it.
func (d *desk) refuses(e api.Event) {
	d.t.Helper()
	before := d.a.Report()
	if l, bad := d.a.Add(e); len(l) != 0 || bad != api.ErrAuditEvent {
		d.t.Errorf("%s: %s: %v, %d", d.name, told(e), l, bad)
	}
	if now := d.a.Report(); !sameReport(now, before) {
		d.t.Errorf("%s: %s has changed %s to %s", d.name, told(e), told(before), told(now))
	}
}

// closes holds the report against the book's, and against what Audit says of the whole row.
func (d *desk) closes() api.AuditReport {
	d.t.Helper()
	r, want := d.a.Report(), d.book.report()
	if !sameReport(r, want) {
		d.t.Errorf("%s: the report is\n%+v\nwant\n%+v", d.name, r, want)
	}
	if all, bad := audit.Audit(d.c, d.book.events()); bad != api.OK || !sameReport(all, r) {
		d.t.Errorf("%s: at once %s, %d; by and by %s", d.name, told(all), bad, told(r))
	}
	return r
}

// sameReport: an empty list may be nil.
func sameReport(a, b api.AuditReport) bool {
	for s := range 2 {
		x, y := a.Streams[s], b.Streams[s]
		if !slices.Equal(a.Paths[s], b.Paths[s]) || !bytes.Equal(x.Bytes, y.Bytes) || x.High != y.High || x.Chunks != y.Chunks || x.Ends != y.Ends {
			return false
		}
	}
	return a.Events == b.Events && a.Foreign == b.Foreign && slices.Equal(a.Findings, b.Findings)
}

// each opens a desk for each scheduler of these, side and path.
func each(t *testing.T, scheds []int, f func(d *desk, side, path int)) {
	t.Helper()
	for _, sched := range scheds {
		for side := range 2 {
			for path := range 2 {
				d := open(t, config(sched))
				d.name = fmt.Sprintf("sched %d, side %d, path %d", sched, side, path)
				f(d, side, path)
				d.closes()
			}
		}
	}
}

func all() []int { return append(many(), api.Single) }

// due is a frame with the number that it must have, if its side sends it now.
func (d *desk) due(side int, f api.Frame) api.Frame {
	f.Num = d.book.dueNumber(page{Event: api.Event{What: api.EventSent, Side: side, Path: f.Path}, f: f, ok: true})
	return f
}

// off is an offset of a side's stream.
func (d *desk) off(side int, n uint64) uint64 { return d.c.Base[side] + n }

// piece is a DATA of a side's with the number that it must have.
func (d *desk) piece(side, path int, n uint64, text string) api.Frame {
	return d.due(side, on(path, data(0, d.off(side, n), text)))
}

// ending is a FIN of a side's with the number that it must have.
func (d *desk) ending(side, path int, n uint64) api.Frame {
	return d.due(side, on(path, fin(0, d.off(side, n))))
}

// asking is a PROBE of a side's with the number that it must have.
func (d *desk) asking(side, path int) api.Frame { return d.due(side, on(path, probe(0))) }

// come lets a frame of a side's be sent and heard. Where it must be answered, it is, by a DACK that tells nothing new.
func (d *desk) come(side int, f api.Frame) {
	d.t.Helper()
	d.fine(sent(side, f), heard(side, f))
	d.answers(1-side, f)
}

// answers lets a side send the answer that it owes, if it does by a frame that it has heard.
func (d *desk) answers(side int, f api.Frame) {
	d.t.Helper()
	if f.Path == 0 && slices.Contains(numbered, f.Kind) {
		d.fine(sent(side, d.told(side)))
	}
}

// told is the DACK that a side has told last.
func (d *desk) told(side int) api.Frame {
	for _, p := range slices.Backward(d.book.l) {
		if p.sends(side, api.KindDack) {
			return dack(p.f.Off, p.f.Edge)
		}
	}
	return dack(d.off(1-side, 0), d.off(1-side, 0))
}
