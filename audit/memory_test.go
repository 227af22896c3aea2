package audit_test

import (
	"slices"
	"testing"

	"braid/api"
	"braid/audit"
)

// spoil overwrites bytes, and the spare room behind them.
func spoil(b []byte) {
	b = b[:cap(b)]
	for i := range b {
		b[i] ^= 0x55
	}
}

// roomy is bytes with spare room behind them.
func roomy(b []byte) []byte { return append(make([]byte, 0, len(b)+40), b...) }

// spoilFindings overwrites findings, and the spare room behind them.
func spoilFindings(l []api.Finding) {
	l = l[:cap(l)]
	for i := range l {
		l[i] = api.Finding{Place: -1, Rule: 99, Side: 7, Path: 8}
	}
}

func spoilReport(r api.AuditReport) {
	spoilFindings(r.Findings)
	for side := range 2 {
		l := r.Paths[side][:cap(r.Paths[side])]
		for i := range l {
			l[i] = api.PathReport{Sent: -9, Rtts: 77, RttSum: 1}
		}
		spoil(r.Streams[side].Bytes)
	}
}

// 0.4: events that are handed in are neither kept nor changed; what is handed out is new, with its spare room.
func TestMemory(t *testing.T) {
	for row := range rows(300) {
		d := dice(row)
		c := d.someConfig(row % api.NumScheds)
		k := open(t, c)
		for range 50 {
			e := d.someEvent(k.book, d.one(0, 90))
			want := k.book.judge(k.book.read(e))
			given := e
			given.Bytes = roomy(e.Bytes)
			got, bad := k.a.Add(given)
			if bad != api.OK || !slices.Equal(got, want) {
				t.Fatalf("row %d: %v, %d, want %v", row, got, bad, want)
			}
			if rest := given.Bytes[len(e.Bytes):cap(given.Bytes)]; !slices.Equal(given.Bytes, e.Bytes) || slices.ContainsFunc(rest, func(b byte) bool { return b != 0 }) {
				t.Fatalf("row %d: %s was changed", row, told(e))
			}
			k.book.add(e)
			spoil(given.Bytes)
			spoilFindings(got)
			if d.maybe(3) {
				spoilReport(k.a.Report())
			}
		}
		first := k.closes()
		second := k.closes()
		spoilReport(first)
		if !sameReport(second, k.book.report()) || !sameReport(k.a.Report(), second) {
			t.Fatalf("row %d: two reports share memory", row)
		}
	}
}

// 0.4: a configuration's lists are neither kept nor changed, nor is a row of events that Audit is handed.
func TestConfigMemory(t *testing.T) {
	for sched := range api.NumScheds {
		d := dice(sched)
		c, w := d.honest(t, sched, 60)
		c.Weights = append(make([]int, 0, 9), []int{1, 2, 3}[:min(c.Paths, 3)]...)
		c.Picks[0] = append(make([]api.Pick, 0, 9), api.Pick{Path: 1, Off: 2, Len: 3})
		weights, picks := slices.Clone(c.Weights), slices.Clone(c.Picks[0])
		a, bad := audit.New(c)
		if bad != api.OK {
			t.Fatal(bad)
		}
		l := w.Log()
		kept := slices.Clone(l)
		for i := range l {
			l[i].Bytes = roomy(l[i].Bytes)
			kept[i].Bytes = slices.Clone(l[i].Bytes)
		}
		r, bad := audit.Audit(c, l)
		if bad != api.OK || !slices.EqualFunc(l, kept, func(x, y api.Event) bool {
			return x.What == y.What && x.Side == y.Side && x.Path == y.Path && x.Clock == y.Clock && slices.Equal(x.Bytes, y.Bytes)
		}) {
			t.Fatalf("sched %d: the row was changed", sched)
		}
		if !slices.Equal(c.Weights, weights) || !slices.Equal(c.Picks[0], picks) {
			t.Fatalf("sched %d: the configuration was changed", sched)
		}
		for i := range c.Weights {
			c.Weights[i] = -1
		}
		c.Picks[0][0] = api.Pick{Path: 9}
		for _, e := range kept {
			a.Add(e)
		}
		if !sameReport(a.Report(), r) {
			t.Errorf("sched %d: %s, want %s", sched, told(a.Report()), told(r))
		}
	}
}

// Two Auditors know nothing of one another.
func TestApart(t *testing.T) {
	c := config(api.MinRtt)
	one, two := open(t, c), open(t, c)
	one.fine(sent(0, data(0, 0, "abcd")))
	two.fine(sent(0, data(0, 0, "xyz")))
	one.fine(sent(0, data(1, 4, "e")), sent(0, rst(9)))
	two.fine(sent(0, fin(1, 3)))
	one.stream(0, "abcde", 5, 2, false)
	two.stream(0, "xyz", 3, 1, true)
}
