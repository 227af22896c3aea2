package script_test

import (
	"bytes"
	"reflect"
	"strings"
	"testing"

	"braid/api"
	"braid/script"
)

const fullText = "paths 3\nmss 4\nsend 20\nrecv 12\ngaps 2\nretries 1\nbag 9\nsched roundrobin\nweights 1 255\nkey a 7\nkey b 18446744073709551615\nbase a 5\nbase b 0\npick a -1 9 0\npick a 1 18446744073709551615 4\npick b 0 1 -2\n" +
	"write b \"\"\nread a -5\nclose a\nabort b\ntick a 1000\ndeliver a 0 -1\ndrop b 1 2\ndouble a 2 0\nspoil a 0 1 2 255\ndown 1\nup 1\nflush 0\njoin a 1 on\nprio b 1 off\nleave a 1\n"

func TestPrintInOrder(t *testing.T) {
	s, err := script.Parse(fullText)
	if err != nil || script.Print(s) != fullText {
		t.Errorf("%v %q", err, script.Print(s))
	}
	mixed := lines("pick b 0 1 -2 / base b 0 / key b 18446744073709551615 / weights 1 255 / pick a -1 9 0 / bag 9 / retries 1 / sched roundrobin / base a 5 / gaps 2 / recv 12 / send 20 / pick a 1 18446744073709551615 4 / mss 4 / paths 3 / key a 7") +
		fullText[strings.Index(fullText, "\nwrite"):]
	gives(t, mixed, s)
}

// TestPrintOfUsualLines: lines that say what holds anyhow are printed too, and weights alone are not.
func TestPrintOfUsualLines(t *testing.T) {
	s := withSteps()
	s.Config.Weights, s.Steps = []int{}, []api.Step{}
	s.Config.Picks = [2][]api.Pick{{}, {}}
	if got := script.Print(s); got != plainText {
		t.Errorf("%q", got)
	}
	for n := 0; n < api.NumScheds; n++ {
		s.Config.Sched = n
		name := []string{"minrtt", "roundrobin", "redundant", "blest", "replay", "single"}[n]
		if got := script.Print(s); got != strings.Replace(plainText, "sched minrtt", "sched "+name, 1) {
			t.Errorf("%d: %q", n, got)
		}
	}
}

func TestPrintOfBytes(t *testing.T) {
	for b := range 256 {
		want := string([]byte{byte(b)})
		switch {
		case b == '"' || b == '\\':
			want = `\` + want
		case b < 32 || b > 126:
			want = `\x` + string("0123456789abcdef"[b/16]) + string("0123456789abcdef"[b%16])
		}
		s := withSteps(api.Step{Kind: api.StepWrite, Data: []byte{byte(b), byte(b)}})
		if got := script.Print(s); got != plainText+`write a "`+want+want+"\"\n" {
			t.Errorf("%d: %q", b, got)
		}
		gives(t, script.Print(s), s)
	}
	all := make([]byte, 256)
	for i := range all {
		all[i] = byte(i)
	}
	s := withSteps(api.Step{Kind: api.StepWrite, Side: 1, Data: all})
	gives(t, script.Print(s), s)
	s = withSteps(api.Step{Kind: api.StepWrite, Data: []byte("é\xff\n")})
	if got := script.Print(s); got != plainText+`write a "\xc3\xa9\xff\x0a"`+"\n" {
		t.Errorf("%q", got)
	}
}

// TestLongPrint: how long a text is does not matter to Fit and Print; Parse takes it up to MaxText.
func TestLongPrint(t *testing.T) {
	room := api.MaxText - len(plainText) - len("write a \"\"\n")
	s := withSteps(api.Step{Kind: api.StepWrite, Data: bytes.Repeat([]byte("z"), room)})
	if text := script.Print(s); len(text) != api.MaxText {
		t.Errorf("%d bytes", len(text))
	}
	gives(t, script.Print(s), s)
	s.Steps[0].Data = append(s.Steps[0].Data, 'z')
	if text := script.Print(s); len(text) != api.MaxText+1 || !script.Fit(s) {
		t.Errorf("%d bytes", len(text))
	}
	breaks(t, script.Print(s), 0, api.ErrText)
}

// TestHandedIn: what is handed in is not changed, nor what lies in its spare room, and not kept.
func TestHandedIn(t *testing.T) {
	data := []byte("ab\x00cdef")
	weights := []int{1, 2, 3, 4}
	picks := []api.Pick{{Path: 1}, {Path: 2}, {Path: 3}}
	steps := []api.Step{{Kind: api.StepWrite, Data: data[:3]}, {Kind: api.StepClose}, {Kind: 99}}
	s := api.Script{Config: plainConfig(), Steps: steps[:2]}
	s.Config.Paths, s.Config.Weights, s.Config.Picks = 2, weights[:2], [2][]api.Pick{picks[:1], picks[1:2]}
	text := script.Print(s)
	if !script.Fit(s) || text == "" {
		t.Fatal("not fit")
	}
	if string(data) != "ab\x00cdef" || !reflect.DeepEqual(weights, []int{1, 2, 3, 4}) || !reflect.DeepEqual(picks, []api.Pick{{Path: 1}, {Path: 2}, {Path: 3}}) || len(steps) != 3 || steps[2].Kind != 99 || steps[1].Kind != api.StepClose || string(steps[0].Data) != "ab\x00" {
		t.Error("changed")
	}
	again := script.Print(s)
	data[0], weights[0], picks[0].Path, steps[1].Kind = 'X', 9, 9, api.StepAbort
	if text != again || !strings.Contains(text, `"ab\x00"`) || !strings.Contains(script.Print(s), `"Xb\x00"`) {
		t.Error("kept")
	}
}

// scribble writes over all that a script has, its spare room too.
func scribble(s api.Script) {
	for i := range s.Steps[:cap(s.Steps)] {
		step := &s.Steps[:cap(s.Steps)][i]
		for j := range step.Data[:cap(step.Data)] {
			step.Data[:cap(step.Data)][j] = 0xEE
		}
		*step = api.Step{Kind: 77}
	}
	for i := range s.Config.Weights[:cap(s.Config.Weights)] {
		s.Config.Weights[:cap(s.Config.Weights)][i] = 77
	}
	for _, picks := range s.Config.Picks {
		for i := range picks[:cap(picks)] {
			picks[:cap(picks)][i] = api.Pick{Path: 77}
		}
	}
}

// TestHandedOut: no two answers, and no two lists of one, share memory.
func TestHandedOut(t *testing.T) {
	text := fullText + "write a \"abcde\"\nwrite b \"fgh\"\nwrite a \"ij\"\n"
	first, _ := script.Parse(text)
	second, _ := script.Parse(text)
	want, _ := script.Parse(text)
	scribble(first)
	if !same(second, want) {
		t.Error("two answers share memory")
	}
	third, err := script.Parse(text)
	if err != nil || !same(third, want) {
		t.Error("an answer is kept")
	}
	for i, s := range second.Steps {
		for j := range s.Data[:cap(s.Data)] {
			s.Data[:cap(s.Data)][j] = 0xEE
		}
		second.Steps[i].Data = want.Steps[i].Data
	}
	if !same(second, want) {
		t.Error("steps share memory")
	}
	for i, s := range third.Steps {
		other := third.Steps[(i+1)%len(third.Steps)].Data
		kept := string(other)
		for j := range s.Data[:cap(s.Data)] {
			s.Data[:cap(s.Data)][j] = 0xEE
		}
		if string(other) != kept {
			t.Errorf("step %d shares its bytes", i)
		}
	}
	for i := range third.Config.Picks[0][:cap(third.Config.Picks[0])] {
		third.Config.Picks[0][:cap(third.Config.Picks[0])][i] = api.Pick{}
	}
	if !reflect.DeepEqual(third.Config.Picks[1], want.Config.Picks[1]) {
		t.Error("picks share memory")
	}
}
