package script_test

import (
	"errors"
	"reflect"
	"strings"
	"testing"

	"braid/api"
	"braid/script"
)

const plainText = "paths 1\nmss 100\nsend 1000\nrecv 1000\ngaps 8\nretries 3\nbag 4096\nsched minrtt\nkey a 1\nkey b 2\nbase a 0\nbase b 0\n"

func plainConfig() api.Config {
	return api.Config{Paths: 1, Mss: 100, SendBuf: 1000, RecvBuf: 1000, Gaps: 8, Retries: 3, Bag: 4096, Sched: api.MinRtt, Keys: [2]uint64{1, 2}}
}

func withSteps(steps ...api.Step) api.Script {
	return api.Script{Config: plainConfig(), Steps: steps}
}

// lines lays lines one behind the other, told with / between as in the chapter.
func lines(told string) string { return strings.ReplaceAll(told, " / ", "\n") }

// gives asks that the text is taken, and for what.
func gives(t *testing.T, text string, want api.Script) {
	t.Helper()
	got, err := script.Parse(text)
	if err != nil {
		t.Errorf("%.60q: %v", text, err)
	} else if !same(got, want) {
		t.Errorf("%.60q: %+v, not %+v", text, got, want)
	} else if !script.Fit(got) {
		t.Errorf("%.60q: not fit", text)
	}
}

// breaks asks that the text is refused at that line by that error, and that there is nothing beside it.
func breaks(t *testing.T, text string, line int, e api.Errno) {
	t.Helper()
	got, err := script.Parse(text)
	var x *api.LineError
	if !errors.As(err, &x) || x == nil || x.Line != line || x.Err != e {
		t.Errorf("%.60q: %v, not line %d: %v", text, err, line, e)
	}
	if !reflect.DeepEqual(got, api.Script{}) {
		t.Errorf("%.60q: %+v beside the error", text, got)
	}
	if _, own := err.(*api.LineError); !own || !errors.Is(err, e) {
		t.Errorf("%.60q: %T is no *api.LineError of %v", text, err, e)
	}
}

// takes asks that the text is taken.
func takes(t *testing.T, text string) {
	t.Helper()
	if _, err := script.Parse(text); err != nil {
		t.Errorf("%.60q: %v", text, err)
	}
}

// same holds scripts against each other; an empty list may be nil.
func same(a, b api.Script) bool { return reflect.DeepEqual(tidy(a), tidy(b)) }

func tidy(s api.Script) api.Script {
	if len(s.Config.Weights) == 0 {
		s.Config.Weights = nil
	}
	for side := range s.Config.Picks {
		if len(s.Config.Picks[side]) == 0 {
			s.Config.Picks[side] = nil
		}
	}
	if len(s.Steps) == 0 {
		s.Steps = nil
	}
	s.Steps = append([]api.Step(nil), s.Steps...)
	for i := range s.Steps {
		if len(s.Steps[i].Data) == 0 {
			s.Steps[i].Data = nil
		}
	}
	return s
}

func TestEmptyText(t *testing.T) {
	gives(t, "", withSteps())
	s, _ := script.Parse("")
	if got := script.Print(s); got != plainText {
		t.Errorf("%q", got)
	}
	for _, text := range []string{"\n", "\n\n\n", " ", "\t\r \n \n", "#", "# paths 9", "#\n#", "  # x\n\t#\"\n", plainText} {
		gives(t, text, withSteps())
	}
}

func TestExampleOfBytes(t *testing.T) {
	line := `write a "a\"\\\x00\xffz # no"`
	want := withSteps(api.Step{Kind: api.StepWrite, Data: []byte("a\"\\\x00\xffz # no")})
	gives(t, line+" # yes", want)
	if got := script.Print(want); got != plainText+line+"\n" {
		t.Errorf("%q", got)
	}
}

func TestExamplesOfBrokenLines(t *testing.T) {
	for _, c := range []struct {
		told string
		line int
		e    api.Errno
	}{
		{"paths 9", 0, api.ErrFit}, {"paths 09", 1, api.ErrNumber}, {"paths -0", 1, api.ErrNumber}, {"paths 1 2", 1, api.ErrWord}, {"Paths 1", 1, api.ErrWord}, {`paths "1"`, 1, api.ErrNumber},
		{"close a / paths 2", 2, api.ErrPlace}, {"mss 5 / # / mss 5", 3, api.ErrTwice},
		{"write a b", 1, api.ErrBytes}, {`write "a`, 1, api.ErrBytes}, {`write c "x"`, 1, api.ErrWord}, {`write "a"b`, 1, api.ErrBytes}, {`wrte "a"b`, 1, api.ErrBytes},
		{"close", 1, api.ErrWord}, {"close c", 1, api.ErrWord}, {"join a 1", 1, api.ErrWord}, {"join a 1 yes", 1, api.ErrWord}, {"spoil a 0 0 0 256", 1, api.ErrNumber}, {`write a "\xFF"`, 1, api.ErrBytes},
		{"recv 50 / read a -5 / tick b 9223372036854775808", 3, api.ErrNumber}, {"recv 50 / read a -5", 0, api.ErrFit},
	} {
		breaks(t, lines(c.told), c.line, c.e)
	}
	for _, told := range []string{"key a 1 / key b 1", "pick a 0 0 5 / pick a 0 0 5", "key a 18446744073709551615"} {
		takes(t, lines(told))
	}
}

// TestEachLine: what each line of both tables says.
func TestEachLine(t *testing.T) {
	for _, c := range []struct {
		line string
		set  func(c *api.Config)
	}{
		{"paths 8", func(c *api.Config) { c.Paths = 8 }},
		{"mss 1", func(c *api.Config) { c.Mss = 1 }},
		{"send 65536", func(c *api.Config) { c.SendBuf = 65536 }},
		{"recv 100", func(c *api.Config) { c.RecvBuf = 100 }},
		{"gaps 64", func(c *api.Config) { c.Gaps = 64 }},
		{"retries 16", func(c *api.Config) { c.Retries = 16 }},
		{"bag 1073741824", func(c *api.Config) { c.Bag = 1 << 30 }},
		{"sched minrtt", func(c *api.Config) { c.Sched = api.MinRtt }},
		{"sched roundrobin", func(c *api.Config) { c.Sched = api.RoundRobin }},
		{"sched redundant", func(c *api.Config) { c.Sched = api.Redundant }},
		{"sched blest", func(c *api.Config) { c.Sched = api.Blest }},
		{"sched replay", func(c *api.Config) { c.Sched = api.Replay }},
		{"sched single", func(c *api.Config) { c.Sched = api.Single }},
		{"weights 7", func(c *api.Config) { c.Weights = []int{7} }},
		{"weights 7 1 255\npaths 4", func(c *api.Config) { c.Weights, c.Paths = []int{7, 1, 255}, 4 }},
		{"key a 0", func(c *api.Config) { c.Keys = [2]uint64{0, 2} }},
		{"key b 18446744073709551615", func(c *api.Config) { c.Keys = [2]uint64{1, 1<<64 - 1} }},
		{"base a 4611686018427387904", func(c *api.Config) { c.Base = [2]uint64{1 << 62, 0} }},
		{"base b 5", func(c *api.Config) { c.Base = [2]uint64{0, 5} }},
		{"pick a -9223372036854775808 18446744073709551615 9223372036854775807", func(c *api.Config) { c.Picks[0] = []api.Pick{{Path: -1 << 63, Off: 1<<64 - 1, Len: 1<<63 - 1}} }},
		{"pick b 1 2 3\npick a 4 5 6\npick b 7 8 9\npick b 1 2 3", func(c *api.Config) {
			c.Picks[0] = []api.Pick{{Path: 4, Off: 5, Len: 6}}
			c.Picks[1] = []api.Pick{{Path: 1, Off: 2, Len: 3}, {Path: 7, Off: 8, Len: 9}, {Path: 1, Off: 2, Len: 3}}
		}},
	} {
		want := withSteps()
		c.set(&want.Config)
		gives(t, c.line, want)
	}
	for _, c := range stepLines() {
		gives(t, c.line, withSteps(c.step))
		if got := script.Print(withSteps(c.step)); got != plainText+c.line+"\n" {
			t.Errorf("%s: %q", c.line, got)
		}
	}
}

type stepLine struct {
	line string
	step api.Step
}

// stepLines: a line of each Kind, and its step.
func stepLines() []stepLine {
	return []stepLine{
		{`write b "hi"`, api.Step{Kind: api.StepWrite, Side: 1, Data: []byte("hi")}},
		{`write a ""`, api.Step{Kind: api.StepWrite}},
		{"read b -5", api.Step{Kind: api.StepRead, Side: 1, N: -5}},
		{"close b", api.Step{Kind: api.StepClose, Side: 1}},
		{"close a", api.Step{Kind: api.StepClose}},
		{"abort b", api.Step{Kind: api.StepAbort, Side: 1}},
		{"tick b 7", api.Step{Kind: api.StepTick, Side: 1, N: 7}},
		{"deliver b 3 4", api.Step{Kind: api.StepDeliver, Side: 1, Path: 3, N: 4}},
		{"drop b 3 4", api.Step{Kind: api.StepDrop, Side: 1, Path: 3, N: 4}},
		{"double b 3 4", api.Step{Kind: api.StepDouble, Side: 1, Path: 3, N: 4}},
		{"spoil b 3 4 5 6", api.Step{Kind: api.StepSpoil, Side: 1, Path: 3, N: 4, At: 5, Mask: 6}},
		{"spoil a -1 -2 -3 255", api.Step{Kind: api.StepSpoil, Path: -1, N: -2, At: -3, Mask: 255}},
		{"down 3", api.Step{Kind: api.StepDown, Path: 3}},
		{"up -3", api.Step{Kind: api.StepUp, Path: -3}},
		{"flush 9223372036854775807", api.Step{Kind: api.StepFlush, Path: 1<<63 - 1}},
		{"join b 3 on", api.Step{Kind: api.StepJoin, Side: 1, Path: 3, On: true}},
		{"join a 3 off", api.Step{Kind: api.StepJoin, Path: 3}},
		{"prio b 3 on", api.Step{Kind: api.StepPrio, Side: 1, Path: 3, On: true}},
		{"leave b 3", api.Step{Kind: api.StepLeave, Side: 1, Path: 3}},
	}
}

// configLines: a line of each kind.
func configLines() []string {
	return []string{"paths 2", "mss 5", "send 5", "recv 500", "gaps 5", "retries 5", "bag 5", "sched blest", "weights 5", "key a 5", "key b 5", "base a 5", "base b 5", "pick a 0 0 5"}
}

func TestOrder(t *testing.T) {
	want := withSteps(api.Step{Kind: api.StepTick, N: 1}, api.Step{Kind: api.StepClose, Side: 1}, api.Step{Kind: api.StepTick, N: 1})
	want.Config.Base = [2]uint64{3, 4}
	want.Config.Mss = 7
	gives(t, lines("base b 4 / mss 7 / base a 3 / tick a 1 / close b / tick a 1"), want)
	gives(t, lines("base a 3 / base b 4 / mss 7 / tick a 1 / close b / tick a 1"), want)
}

func TestLength(t *testing.T) {
	full := "close a\n#" + strings.Repeat("x", api.MaxText-9)
	gives(t, full, withSteps(api.Step{Kind: api.StepClose}))
	breaks(t, full+"x", 0, api.ErrText)
	breaks(t, full+"\n", 0, api.ErrText)
	breaks(t, "wrong\n"+full, 0, api.ErrText)
	breaks(t, strings.Repeat(" ", api.MaxText+1), 0, api.ErrText)
	breaks(t, "paths 9\n"+full, 0, api.ErrText)
	gives(t, strings.Repeat("\n", api.MaxText), withSteps())
	breaks(t, strings.Repeat("\n", api.MaxText-1)+"x", api.MaxText, api.ErrWord)
}

func TestLastLine(t *testing.T) {
	want := withSteps(api.Step{Kind: api.StepClose}, api.Step{Kind: api.StepDown, Path: 2})
	gives(t, "close a\ndown 2", want)
	gives(t, "close a\ndown 2\n", want)
	gives(t, "close a\ndown 2\n\n", want)
	breaks(t, "close a\ndown", 2, api.ErrWord)
	breaks(t, "close a\ndown\n", 2, api.ErrWord)
	breaks(t, "close a\n\"\n", 2, api.ErrBytes)
	breaks(t, "close a\n\"", 2, api.ErrBytes)
}
