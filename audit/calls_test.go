package audit_test

import (
	"math"
	"strings"
	"testing"

	"braid/api"
	"braid/audit"
	"braid/conn"
)

// The chapter's examples.
func TestExamples(t *testing.T) {
	c := config(api.MinRtt)
	d := open(t, c)
	d.fine(sent(0, data(0, 0, "abcd")), heard(0, data(0, 0, "abcd")), sent(1, ack(0, 1)), sent(1, dack(4, 12)))
	d.closes()

	for _, x := range []struct {
		f    api.Frame
		rule int
	}{{data(0, 4, "e"), number}, {data(1, 12, "x"), edge}, {data(1, 0, "abce"), says}, {data(1, 2, "cde"), cut}, {data(1, 4, "12345"), cut}} {
		d := open(t, c)
		d.fine(sent(0, data(0, 0, "abcd")))
		d.shows(sent(0, x.f), x.rule)
		d.closes()
	}

	d = open(t, c)
	d.fine(heard(0, data(0, 0, "abcd")), sent(0, data(9, 0, "x")), sent(1, ack(0, 1)))
	if r := d.closes(); r.Foreign != 1 {
		t.Errorf("foreign %d", r.Foreign)
	}

	for _, x := range []struct {
		side int
		f    api.Frame
		rule int
	}{{1, ack(0, 1), acks}, {1, dack(1, 12), dacks}, {1, dack(0, 13), dacks}, {0, joined(), role}, {0, rst(7), token}} {
		d := open(t, c)
		d.shows(sent(x.side, x.f), x.rule)
		if x.rule == token {
			d.shows(sent(0, probe(0)), after)
		}
		d.closes()
	}

	d = open(t, c)
	d.fine(sent(0, data(0, 0, "abcd")), heard(0, data(0, 0, "abcd")))
	d.showsSilent(1, sent(0, data(1, 4, "e")))
	if r := d.closes(); len(r.Findings) != 1 || r.Findings[0] != (api.Finding{Place: 2, Rule: 12, Side: 1}) {
		t.Errorf("%v", r.Findings)
	}

	d = open(t, c)
	d.shows(raw(api.EventSent, 0, 0, "\x01\x02"), form)
	d.refuses(api.Event{What: api.EventSent, Path: 2})
	d.closes()
}

// What an Auditor is that New did not give.
func TestPlain(t *testing.T) {
	for _, a := range []*audit.Auditor{nil, {}, new(audit.Auditor)} {
		for _, e := range []api.Event{{}, {What: 9, Side: 7, Path: -1}, sent(0, probe(0)), raw(api.EventSent, 0, 0, "x")} {
			if l, bad := a.Add(e); len(l) != 0 || bad != api.ErrAuditConfig {
				t.Errorf("Add: %v, %d", l, bad)
			}
			if r := a.Report(); !sameReport(r, api.AuditReport{}) || r.Paths[0] != nil || r.Paths[1] != nil {
				t.Errorf("Report: %+v", r)
			}
		}
	}
}

// P26.1: configurations that may be, and such as may not.
func TestNew(t *testing.T) {
	for _, change := range []func(c *api.Config){
		func(c *api.Config) {}, func(c *api.Config) { c.Paths = 1 }, func(c *api.Config) { c.Paths = 8 }, func(c *api.Config) { c.Paths = 0 }, func(c *api.Config) { c.Paths = 9 },
		func(c *api.Config) { c.Mss = 0 }, func(c *api.Config) { c.Mss = 13 }, func(c *api.Config) { c.Mss = 12 }, func(c *api.Config) { c.Mss, c.RecvBuf = 1024, 1024 }, func(c *api.Config) { c.Mss, c.RecvBuf = 1025, 2000 },
		func(c *api.Config) { c.SendBuf = 0 }, func(c *api.Config) { c.SendBuf = 65536 }, func(c *api.Config) { c.SendBuf = 65537 }, func(c *api.Config) { c.RecvBuf = 65536 }, func(c *api.Config) { c.RecvBuf = 65537 },
		func(c *api.Config) { c.Gaps = 0 }, func(c *api.Config) { c.Gaps = 65 }, func(c *api.Config) { c.Retries = 0 }, func(c *api.Config) { c.Retries = 17 }, func(c *api.Config) { c.Bag = 0 }, func(c *api.Config) { c.Bag = api.MaxBag + 1 },
		func(c *api.Config) { c.Sched = -1 }, func(c *api.Config) { c.Sched = 6 }, func(c *api.Config) { c.Sched = 5 }, func(c *api.Config) { c.Weights = []int{1, 255} }, func(c *api.Config) { c.Weights = []int{1, 1, 1} }, func(c *api.Config) { c.Weights = []int{256} },
		func(c *api.Config) { c.Base[0] = api.MaxOff }, func(c *api.Config) { c.Base[0] = api.MaxOff + 1 }, func(c *api.Config) { c.Base[1] = math.MaxUint64 }, func(c *api.Config) { c.Base[1] = api.MaxOff }, func(c *api.Config) { c.Keys = [2]uint64{} },
		func(c *api.Config) { *c = api.Config{} }, func(c *api.Config) { c.Picks[1] = []api.Pick{{Path: -5, Off: 1, Len: -1}} },
	} {
		c := config(api.MinRtt)
		change(&c)
		a, e := audit.New(c)
		r, e2 := audit.Audit(c, nil)
		if conn.Fit(c) != api.OK {
			if a != nil || e != api.ErrAuditConfig || e2 != api.ErrAuditConfig || !sameReport(r, api.AuditReport{}) {
				t.Errorf("%+v: %v, %d; %s, %d", c, a, e, told(r), e2)
			}
			if r, e := audit.Audit(c, []api.Event{{}}); e != api.ErrAuditConfig || !sameReport(r, api.AuditReport{}) {
				t.Errorf("%+v, with an event that may not be: %s, %d", c, told(r), e)
			}
			continue
		}
		d := open(t, c)
		if r := d.closes(); len(r.Paths[0]) != c.Paths || len(r.Paths[1]) != c.Paths || r.Streams[0].High != c.Base[0] || r.Streams[1].High != c.Base[1] {
			t.Errorf("%+v: %s", c, told(r))
		}
	}
}

// P26.2: What, Side and Path at their bounds and outside of them; behind an event that may not be nothing has happened: it has no place, and what is owed is owed still.
func TestAddBounds(t *testing.T) {
	odd := []int{math.MinInt, -1 << 32, -256, -1, 0, 1, 2, 3, 6, 7, 8, 255, 256, 1 << 32, math.MaxInt}
	for _, paths := range []int{1, 2, 8} {
		c := config(api.MinRtt)
		c.Paths = paths
		d := open(t, c)
		good := coded(data(0, 0, "a"))
		d.fine(sent(0, data(0, 0, "a")), heard(0, data(0, 0, "a")))
		for _, x := range odd {
			for _, e := range []api.Event{{What: x, Bytes: good}, {What: 1, Side: x, Bytes: good}, {What: 1, Path: x, Bytes: good}} {
				if e.What < 1 || e.What > 6 || e.Side < 0 || e.Side > 1 || e.Path < 0 || e.Path >= paths {
					d.refuses(e)
				}
			}
		}
		d.fine(sent(1, ack(0, 1)))
		d.refuses(api.Event{What: 7, Side: 1})
		d.refuses(api.Event{What: 1, Side: 2})
		d.fine(sent(1, dack(1, 13)))
		for what := 1; what <= 6; what++ {
			for path := range paths {
				d.fine(raw(api.EventHeard, 0, path, "x"), raw(api.EventDropped, 1, path, ""))
				if what > 2 {
					d.fine(raw(what, path%2, path, "x"))
				} else {
					d.shows(raw(what, path%2, path, "x"), form)
				}
			}
		}
		d.closes()
	}
}

// P26.2: Audit's error, wherever the event stands that may not be.
func TestAuditEvent(t *testing.T) {
	good := []api.Event{sent(0, probe(0)), heard(0, probe(0)), sent(1, ack(0, 1)), sent(1, dack(0, 12))}
	for n := range len(good) + 1 {
		for _, bad := range []api.Event{{}, {What: 7}, {What: 1, Side: -1}, {What: 1, Side: 2}, {What: 1, Path: 2}, {What: 1, Path: -1}} {
			l := append(append(append([]api.Event{}, good[:n]...), bad), good[n:]...)
			if r, e := audit.Audit(config(0), l); e != api.ErrAuditEvent || !sameReport(r, api.AuditReport{}) || r.Paths[0] != nil {
				t.Errorf("%+v at %d: %s, %d", bad, n, told(r), e)
			}
		}
	}
}

// P26.6.
func TestName(t *testing.T) {
	names := strings.Fields("form number edge bytes cut end ack dack token role after silent")
	for k, want := range names {
		if got := audit.Name(k + 1); got != want {
			t.Errorf("Name(%d): %q", k+1, got)
		}
	}
	if len(names) != api.NumRules-1 || audit.Name(api.RuleSilent) != "silent" || audit.Name(api.RuleForm) != "form" {
		t.Errorf("%d names", len(names))
	}
	for _, rule := range []int{0, -1, 13, 14, 255, 257, 1<<32 + 1, math.MinInt, math.MaxInt} {
		if got := audit.Name(rule); got != "" {
			t.Errorf("Name(%d): %q", rule, got)
		}
	}
}
