package harness_test

import (
	"strings"
	"testing"

	"braid/api"
	"braid/harness"
	"braid/script"
)

// played is Play of a text whose lines are told with / between; so is the answer.
func played(text string) string {
	return strings.ReplaceAll(harness.Play(strings.ReplaceAll(text, "/", "\n")), "\n", "/")
}

// The chapter's examples, and the first five of the document's.
func TestExamples(t *testing.T) {
	for i, x := range []struct{ text, want string }{
		{`mss 4/send 20/recv 12/write a "abcdefg"/deliver a 0 1/read b 9/deliver a 0 0/read b 9/flush 0`,
			`A write 7 of 7/B read ""/B read "abcdefg"/A: clock 0 acked 7 high 7 end 7 edge 19 next 0 own 12 stored 0 error 0/B: clock 0 acked 0 high 0 end 0 edge 12 next 7 own 19 stored 0 error 0/forged 0/`},
		{`paths 2/mss 4/sched roundrobin/join a 1 off/flush 1/write a "abcdefgh"/close a/down 0/flush 1/read b 9/tick a 2000/flush 1/read b 9/read b 9`,
			`A write 8 of 8/A close/B read ""/B read "abcdefgh"/B read "" end/A: clock 2000 acked 9 high 8 end 8 edge 1000 next 0 own 1000 stored 0 error 0/B: clock 0 acked 0 high 0 end 0 edge 1000 next 9 own 1008 stored 0 error 0/forged 0/`},
		{`sched single/mss 3/write b "hello"/spoil b 0 0 21 1/flush 0/read a 9/tick b 1000/flush 0/read a 9`,
			`B write 5 of 5/A read ""/A read "hello"/A: clock 0 acked 0 high 0 end 0 edge 1000 next 5 own 1005 stored 0 error 0/B: clock 1000 acked 5 high 5 end 5 edge 1000 next 0 own 1000 stored 0 error 0/forged 0/`},
		{`write a "x"/abort a/read b 5/flush 0/read b 5/write b "y"/close a`,
			`A write 1 of 1/A abort/B read ""/B read: error 132/B write: error 132/A close: error 134/A: clock 0 acked 0 high 1 end 1 edge 1000 next 0 own 1000 stored 0 error 134/B: clock 0 acked 0 high 0 end 0 edge 1000 next 1 own 1000 stored 1 error 132/forged 0/`},
		{`retries 1/close a/drop a 0 0/tick a 1000/tick a 2000/tick a 4000/tick a 8000/close a/read a 1`,
			`A close/A close: error 133/A read: error 133/A: clock 15000 acked 0 high 0 end 0 edge 1000 next 0 own 1000 stored 0 error 133/B: clock 0 acked 0 high 0 end 0 edge 1000 next 0 own 1000 stored 0 error 0/forged 0/`},
		{`paths 9`, `line 0: error 146/`},
		{`write a "x/y"`, `line 1: error 143/`},
	} {
		if got := played(x.text); got != x.want {
			t.Errorf("%d: %s\nwant %s", i+1, got, x.want)
		}
	}
}

// calm is the last three lines of a script in which nothing but what is told ahead of them changes the sides.
const calm = `A: clock 0 acked 0 high 0 end 0 edge 1000 next 0 own 1000 stored 0 error 0/B: clock 0 acked 0 high 0 end 0 edge 1000 next 0 own 1000 stored 0 error 0/forged 0/`

// P15.7: what Parse refuses is one line, with the numbers of the line and the error.
func TestPlayRefused(t *testing.T) {
	for _, x := range []struct{ text, want string }{
		{"wrte a", "line 1: error 141/"},
		{"//close a/# no/read a 01/abort c", "line 5: error 142/"},
		{"close a/paths 2", "line 2: error 144/"},
		{"mss 5/mss 5/write a b", "line 2: error 145/"},
		{`close a/write a "\xFF"`, "line 2: error 143/"},
		{"recv 50/read a -5", "line 0: error 146/"},
		{strings.Repeat("/", 1<<20) + "x", "line 0: error 140/"},
		{strings.Repeat("/", 12345) + "x", "line 12346: error 141/"},
		{"", calm},
		{strings.Repeat("/", 1<<20), calm},
		{"read a 5/flush 0/", `A read ""/` + calm},
	} {
		if got := played(x.text); got != x.want {
			t.Errorf("%.40q: %s\nwant %s", x.text, got, x.want)
		}
	}
}

// P15.7: each kind of line, with and without an error, with the end, and with bytes that may not stand for themselves.
func TestPlayLines(t *testing.T) {
	stats := func(text string) string { return text[strings.Index(text, "A: clock"):] }
	for _, x := range []struct{ text, want string }{
		{`send 7/write a "abcdefghi"/write a ""/write a "z"/write b "12"`, "A write 7 of 9/A write 0 of 0/A write 0 of 1/B write 2 of 2/"},
		{`write a "q\"\\\x00\x1f ~\x7f\x80\xff#"/flush 0/read b 99`, `A write 11 of 11/B read "q\"\\\x00\x1f ~\x7f\x80\xff#"/`},
		{`write b "ab"/close b/flush 0/read a 1/read a 0/read a 5/read a -5`, `B write 2 of 2/B close/A read "a"/A read ""/A read "b"/A read "" end/`},
		{`close b/close b/write b "x"/write b ""/abort b/abort b/close b/read b 3/write b "x"`,
			"B close/B close: error 131/B write: error 131/B write: error 131/B abort/B abort: error 134/B close: error 134/B read: error 134/B write: error 134/"},
		{`abort a/flush 0/abort b/close b/write b "xx"/read b 1`, "A abort/B abort: error 132/B close: error 132/B write: error 132/B read: error 132/"},
		{`tick a 5/join a 0 on/prio b 0 off/leave a 0/down 0/up 0/flush 0/deliver a 0 0/drop a 0 0/double a 0 0/spoil a 0 0 0 0`, ""},
	} {
		s, err := script.Parse(strings.ReplaceAll(x.text, "/", "\n"))
		if err != nil {
			t.Fatal(x.text, err)
		}
		m := newModel(t, s.Config)
		for _, step := range s.Steps {
			m.do(step)
		}
		got := played(x.text)
		if got != x.want+stats(strings.ReplaceAll(m.play(), "\n", "/")) {
			t.Errorf("%s: %s\nwant %s", x.text, got, x.want)
		}
	}
}

// P15.7: the sides' numbers are each in its place.
func TestPlayNumbers(t *testing.T) {
	got := played(`mss 3/send 50/recv 12/base a 18/base b 4000000000000000000/bag 9/write a "abcdefghijklmnopqrst"/deliver a 0 1/deliver a 0 0/deliver a 0 1/read b 2/tick a 7/tick b 100/write b "xyz"/deliver b 0 -2/deliver b 0 -2/abort b`)
	want := `A write 20 of 20/B read "ab"/B write 3 of 3/B abort/` +
		`A: clock 7 acked 24 high 30 end 38 edge 32 next 4000000000000000000 own 4000000000000000012 stored 0 error 0/` +
		`B: clock 100 acked 4000000000000000000 high 4000000000000000003 end 4000000000000000003 edge 4000000000000000012 next 24 own 32 stored 7 error 134/forged 0/`
	if got != want {
		t.Errorf("%s\nwant %s", got, want)
	}
}

// P15.7: forged is told. The steps that spoil a frame into another one are written as text.
func TestPlayForged(t *testing.T) {
	w := open(t, config(), write(0, "abcd"))
	before := w.Bag(0, 0)[0].Bytes
	forge(t, w, 0, api.Frame{Kind: api.KindData, Data: []byte("wxyz")})
	after := w.Bag(0, 0)[0].Bytes
	s := api.Script{Config: config(), Steps: []api.Step{write(0, "abcd")}}
	for i := range before {
		s.Steps = append(s.Steps, spoil(0, 0, 0, i, before[i]^after[i]))
	}
	s.Steps = append(s.Steps, api.Step{Kind: api.StepDouble}, flush(0), read(1, 9))
	if got := harness.Play(script.Print(s)); !strings.HasSuffix(got, "\nforged 2\n") || !strings.Contains(got, "\nB read \"wxyz\"\n") {
		t.Error(got)
	}
}
