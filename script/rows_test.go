package script_test

import (
	"errors"
	"fmt"
	"math"
	"strings"
	"testing"

	"braid/api"
	"braid/script"
)

// dice gives the same row of numbers in every run.
type dice uint64

func (d *dice) below(n int) int {
	*d = *d*6364136223846793005 + 1442695040888963407
	return int(uint64(*d) >> 20 % uint64(n))
}

func (d *dice) one(in int) bool { return d.below(in) == 0 }

func (d *dice) oneOf(l ...string) string { return l[d.below(len(l))] }

func (d *dice) int(l ...int) int { return l[d.below(len(l))] }

func (d *dice) long(l ...uint64) uint64 { return l[d.below(len(l))] }

func rowsOf(n int) int {
	if testing.Short() {
		return n / 20
	}
	return n
}

// someInt is any int, the ends among them.
func someInt(d *dice) int {
	return d.int(0, 1, -1, 5, 10, 99, math.MaxInt64, math.MinInt64, d.below(1<<40), -d.below(1<<40))
}

func someLong(d *dice) uint64 {
	return d.long(0, 1, 9, 1<<63, math.MaxUint64, uint64(d.below(1<<40)))
}

func someData(d *dice) []byte {
	b := make([]byte, d.int(0, 1, 2, 5, 20))
	for i := range b {
		b[i] = byte(d.int('a', ' ', '"', '\\', '#', 'x', 0, 10, 13, 31, 126, 127, 255, d.below(256)))
	}
	return b
}

// someFit is a fit script.
func someFit(d *dice) api.Script {
	c := api.Config{
		Paths: 1 + d.below(8), Mss: d.int(1, 2, 100, 1024), SendBuf: d.int(1, 500, 65536), RecvBuf: d.int(1024, 5000, 65536), Gaps: d.int(1, 8, 64), Retries: d.int(1, 3, 16),
		Bag: d.int(1, 4096, 1<<30), Sched: d.below(api.NumScheds), Keys: [2]uint64{someLong(d), someLong(d)}, Base: [2]uint64{d.long(0, 7, 1<<62), d.long(0, 7, 1<<62)},
	}
	for range d.below(c.Paths + 1) {
		c.Weights = append(c.Weights, d.int(1, 2, 255))
	}
	for side := range c.Picks {
		for range d.int(0, 0, 1, 3) {
			c.Picks[side] = append(c.Picks[side], api.Pick{Path: someInt(d), Off: someLong(d), Len: someInt(d)})
		}
	}
	s := api.Script{Config: c}
	for range d.int(0, 1, 3, 9) {
		s.Steps = append(s.Steps, someStep(d))
	}
	return s
}

// someStep is a fit step.
func someStep(d *dice) api.Step {
	kind := 1 + d.below(api.NumSteps-1)
	var v []any
	for _, shape := range modelShapes[modelKinds[kind]] {
		switch shape {
		case 'S':
			v = append(v, d.below(2))
		case 'N':
			v = append(v, someInt(d))
		case 'M':
			v = append(v, byte(d.int(0, 1, 255, d.below(256))))
		case 'F':
			v = append(v, d.one(2))
		case 'B':
			v = append(v, someData(d))
		}
	}
	return modelStep(modelKinds[kind], v)
}

// TestThereAndBack: P14.4 from the script's side, and Print against the model.
func TestThereAndBack(t *testing.T) {
	d := dice(14)
	texts := map[string]api.Script{}
	for range rowsOf(20000) {
		s := someFit(&d)
		text := script.Print(s)
		if !script.Fit(s) || text != modelPrint(s) {
			t.Fatalf("%+v: %q, not %q", s, text, modelPrint(s))
		}
		back, err := script.Parse(text)
		if err != nil || !same(back, s) || script.Print(back) != text {
			t.Fatalf("%q: %v %+v", text, err, back)
		}
		if other, ok := texts[text]; ok && !same(other, s) {
			t.Fatalf("one text of two scripts: %q", text)
		}
		texts[text] = s
	}
}

// someSeparator is blanks, of which the first one must be.
func someSeparator(d *dice) string {
	return d.oneOf(" ", " ", " ", "  ", "\t", "\r", " \t ")
}

// disguise says the same as a printed text otherwise: other blanks, remarks, lines that say nothing, lines of the configuration in another order.
func disguise(d *dice, text string) string {
	all := strings.SplitAfter(text, "\n")
	all = all[:len(all)-1]
	settings := 0
	for settings < len(all) && modelKind(strings.Fields(all[settings])[0]) == 0 {
		settings++
	}
	for i := range settings { // a pick stays among picks, as their order says something
		j := d.below(settings)
		if !strings.HasPrefix(all[i], "pick") && !strings.HasPrefix(all[j], "pick") {
			all[i], all[j] = all[j], all[i]
		}
	}
	var out []string
	for _, line := range all {
		words, _ := modelWords(strings.TrimSuffix(line, "\n"))
		line = ""
		if d.one(8) {
			line = d.oneOf("\n", "#\n", " \t# x \" \xff\n", "\r\n")
		}
		line += d.oneOf("", "", " ", "\t\r")
		for i, w := range words {
			if i > 0 {
				line += someSeparator(d)
			}
			line += w
		}
		out = append(out, line+d.oneOf("", "", " ", "\r", " #", "\t# \"", " #\xff"))
	}
	return strings.Join(out, "\n") + d.oneOf("", "\n", "\n\n")
}

// TestSameWords: Print is the same for all texts that say the same.
func TestSameWords(t *testing.T) {
	d := dice(41)
	for range rowsOf(10000) {
		text := script.Print(someFit(&d))
		other := disguise(&d, text)
		s, err := script.Parse(other)
		if err != nil || script.Print(s) != text {
			t.Fatalf("%q: %v %q", other, err, script.Print(s))
		}
	}
}

// someWord is a word that a line might have, or might not.
func someWord(d *dice) string {
	return d.oneOf("a", "b", "a", "b", "c", "0", "1", "5", "-1", "-0", "01", "255", "256", "on", "off", "yes", "minrtt", "single", "x", `""`, `"x"`, `"a\"\\\x00"`, `"\xFF"`, `"a`, `"a"b`, `"\`, "#", "#x", "a#", `a"`, "\xff", "9223372036854775807", "9223372036854775808", "-9223372036854775809", "18446744073709551615", "18446744073709551616")
}

func someCommand(d *dice) string {
	names := []string{"paths", "mss", "send", "recv", "gaps", "retries", "bag", "sched", "weights", "key", "base", "pick", "nope", "\"close\""}
	if d.one(3) {
		names = modelKinds[1:]
	}
	return d.oneOf(names...)
}

// rightLine is one that is taken where it may stand; wrongLine one that seldom is.
func rightLine(d *dice, config bool) string {
	if config {
		return d.oneOf("paths "+d.oneOf("1", "2", "8", "8", "9"), "mss 5", "send 7", "recv "+d.oneOf("50", "100", "1024"), "gaps 1", "retries 2", "bag 3", "sched "+d.oneOf(modelScheds...), "weights "+d.oneOf("1", "1 2", "0", "256"),
			"key "+d.oneOf("a", "b")+" 5", "base "+d.oneOf("a", "b")+d.oneOf(" 5", " 4611686018427387905"), "pick "+d.oneOf("a", "b")+" 1 2 3", "pick a -1 0 0")
	}
	x := someStep(d)
	return modelKinds[x.Kind] + modelFields(x)
}

func wrongLine(d *dice) string {
	line := someCommand(d)
	for range d.below(6) {
		line += someSeparator(d) + someWord(d)
	}
	return line
}

// spoil changes some byte of a line.
func spoil(d *dice, line string) string {
	i := d.below(len(line) + 1)
	raw := d.oneOf("\"", "\\", "#", " ", "\t", "\n", "-", "0", "x", "a", "\xff", "é", "\x00")
	switch {
	case d.one(2) || i == len(line):
		return line[:i] + raw + line[i:]
	case d.one(2):
		return line[:i] + raw + line[i+1:]
	}
	return line[:i] + line[i+1:]
}

func someText(d *dice) string {
	var out []string
	settings := d.below(5)
	for i := range settings + d.below(5) {
		line := rightLine(d, i < settings || d.one(30))
		switch {
		case d.one(15):
			line = wrongLine(d)
		case d.one(15):
			line = spoil(d, line)
		case d.one(10):
			line = d.oneOf("", "#", "  ", " # x")
		}
		out = append(out, line)
	}
	return strings.Join(out, "\n") + d.oneOf("", "\n")
}

// answer tells Parse's answer in words.
func answer(text string) string {
	s, err := script.Parse(text)
	if err == nil {
		return fmt.Sprintf("%+v", tidy(s))
	}
	var x *api.LineError
	errors.As(err, &x)
	return fmt.Sprintf("%+v %d %d", tidy(s), x.Line, x.Err)
}

func modelAnswer(text string) string {
	s, line, e := modelText(text)
	if e == 0 {
		return fmt.Sprintf("%+v", tidy(s))
	}
	return fmt.Sprintf("%+v %d %d", tidy(s), line, e)
}

// TestRows: texts of right and wrong lines against the model; what Parse gives is fit, and comes back from Print.
func TestRows(t *testing.T) {
	d := dice(4)
	taken := 0
	seen := map[api.Errno]int{}
	for range rowsOf(60000) {
		text := someText(&d)
		if got, want := answer(text), modelAnswer(text); got != want {
			t.Fatalf("%q: %s, not %s", text, got, want)
		}
		s, err := script.Parse(text)
		if err != nil {
			seen[err.(*api.LineError).Err]++
			continue
		}
		taken++
		back, err := script.Parse(script.Print(s))
		if !script.Fit(s) || err != nil || !same(s, back) || script.Print(s) != modelPrint(s) {
			t.Fatalf("%q: %v, not there and back", text, err)
		}
	}
	for _, e := range []api.Errno{api.ErrWord, api.ErrNumber, api.ErrBytes, api.ErrPlace, api.ErrTwice, api.ErrFit} {
		if seen[e] < 20 || taken < 1000 {
			t.Errorf("the rows are too tame: %v, %d taken", seen, taken)
		}
	}
}

// TestWhereItBreaks: P14.5: lines behind the broken one change nothing, those ahead of it alone are not broken.
func TestWhereItBreaks(t *testing.T) {
	d := dice(5)
	for range rowsOf(20000) {
		text := someText(&d)
		_, err := script.Parse(text)
		if err == nil || errors.Is(err, api.ErrFit) {
			continue
		}
		n := err.(*api.LineError).Line
		all := strings.Split(text, "\n")
		ahead, upTo := strings.Join(all[:n-1], "\n"), strings.Join(all[:n], "\n")
		for _, other := range []string{upTo, upTo + "\n", upTo + "\n" + someText(&d), upTo + "\n\"", upTo + "\n" + spoil(&d, text)} {
			if answer(other) != answer(text) {
				t.Fatalf("%q and %q: %s, %s", text, other, answer(text), answer(other))
			}
		}
		if _, err := script.Parse(ahead); err != nil && (!errors.Is(err, api.ErrFit) || err.(*api.LineError).Line != 0) {
			t.Fatalf("%q: %v", ahead, err)
		}
	}
}

// TestRawBytes: short texts of raw bytes against the model.
func TestRawBytes(t *testing.T) {
	d := dice(6)
	for range rowsOf(40000) {
		text := d.oneOf("", "write a ", "write b \"", "down ", "close ", "key a ", "\n", "mss 5\n")
		for range d.below(8) {
			text += d.oneOf("\"", "\\", "x", "0", "1", "a", "f", "F", " ", "\t", "\r", "\n", "#", "-", string([]byte{byte(d.below(256))}))
		}
		if got, want := answer(text), modelAnswer(text); got != want {
			t.Fatalf("%q: %s, not %s", text, got, want)
		}
	}
}
