package script_test

import (
	"strings"
	"testing"

	"braid/api"
	"braid/script"
)

func TestBlanks(t *testing.T) {
	want := withSteps(api.Step{Kind: api.StepRead, N: 5})
	for _, blank := range []string{" ", "\t", "\r", " \t\r ", "\r\r", "\t\t\t"} {
		gives(t, blank+"read a 5", want)
		gives(t, "read"+blank+"a"+blank+"5", want)
		gives(t, "read a 5"+blank, want)
		gives(t, "read a 5"+blank+"\n", want)
		gives(t, "read a 5"+blank+"#"+blank, want)
		gives(t, blank+"\n"+blank+"\nread a 5", want)
		gives(t, `write a "x"`+blank, withSteps(api.Step{Kind: api.StepWrite, Data: []byte("x")}))
		gives(t, `write a`+blank+`"x"`, withSteps(api.Step{Kind: api.StepWrite, Data: []byte("x")}))
	}
	for _, none := range []string{"\v", "\f", "\x00", "\u0085", "\u00a0", "\u2028", "\xa0", "\x85", "\b", "\x1f", "!", ","} {
		breaks(t, "close"+none+"a", 1, api.ErrWord)
		breaks(t, none+"close a", 1, api.ErrWord)
		breaks(t, "close a"+none, 1, api.ErrWord)
		breaks(t, "tick a 5"+none, 1, api.ErrNumber)
		breaks(t, `write a "x"`+none, 1, api.ErrBytes)
	}
	breaks(t, "tick a\n5", 1, api.ErrWord)
	breaks(t, "closea", 1, api.ErrWord)
}

func TestRemarks(t *testing.T) {
	closed := withSteps(api.Step{Kind: api.StepClose})
	gives(t, "close a #", closed)
	gives(t, "close a # b", closed)
	gives(t, "close a #b \"", closed)
	gives(t, "#close b\nclose a", closed)
	gives(t, "close a # \"never ended \\q \xff\x00", closed)
	breaks(t, "close # a", 1, api.ErrWord)
	breaks(t, "close #a", 1, api.ErrWord)
	breaks(t, "close a#", 1, api.ErrWord)
	breaks(t, "close a# b", 1, api.ErrWord)
	breaks(t, "close# a", 1, api.ErrWord)
	breaks(t, "tick a 5#", 1, api.ErrNumber)
	breaks(t, `write a "x"#`, 1, api.ErrBytes)
	breaks(t, `write a "x`+"\n"+`#"`, 1, api.ErrBytes)
	gives(t, `write a "x" #"`, withSteps(api.Step{Kind: api.StepWrite, Data: []byte("x")}))
	gives(t, `write a "#"`, withSteps(api.Step{Kind: api.StepWrite, Data: []byte("#")}))
	gives(t, `write a " # x"`, withSteps(api.Step{Kind: api.StepWrite, Data: []byte(" # x")}))
}

func writes(t *testing.T, quoted, data string) {
	t.Helper()
	gives(t, "write b "+quoted, withSteps(api.Step{Kind: api.StepWrite, Side: 1, Data: []byte(data)}))
	gives(t, "write b "+quoted+" #\n", withSteps(api.Step{Kind: api.StepWrite, Side: 1, Data: []byte(data)}))
}

func TestQuotes(t *testing.T) {
	writes(t, `""`, "")
	writes(t, `" "`, " ")
	writes(t, `"  a  b  "`, "  a  b  ")
	writes(t, `"\""`, `"`)
	writes(t, `"\\"`, `\`)
	writes(t, `"\\\""`, `\"`)
	writes(t, `"\\\\"`, `\\`)
	writes(t, `"\x22"`, `"`)
	writes(t, `"\x5c\"x"`, `\"x`)
	writes(t, `"\x00\x0a\x0d\x09\x7f\x80\xff\xab\x9c"`, "\x00\n\r\t\x7f\x80\xff\xab\x9c")
	writes(t, `"\\x41"`, `\x41`)
	writes(t, `"\x41\x42c"`, "ABc")
	writes(t, `"\x616"`, "a6")
	for b := range 256 {
		quoted := `"` + string([]byte{byte(b)}) + `"`
		switch {
		case b == '\n':
			breaks(t, "write b "+quoted, 1, api.ErrBytes)
		case b == '"':
			breaks(t, "write b "+quoted, 1, api.ErrBytes)
		case b == '\\':
			breaks(t, "write b "+quoted, 1, api.ErrBytes)
		case b < 32 || b > 126:
			breaks(t, "write b "+quoted, 1, api.ErrBytes)
		default:
			writes(t, quoted, string([]byte{byte(b)}))
		}
	}
}

func TestQuotesThatAreNone(t *testing.T) {
	for _, quoted := range []string{
		`"`, `"a`, `"a\"`, `"a\\\"`, `"\`, `"\x`, `"\x4`, `"\x41`, // not ended
		`"\n"`, `"\q"`, `"\ "`, `"\0"`, `"\X41"`, `"\u0041"`, `"\'"`, "\"\\\xff\"", "\"\\é\"", "\"\\\t\"", // behind a backslash
		`"\x"`, `"\x4"`, `"\xg0"`, `"\x0g"`, `"\xFF"`, `"\xfF"`, `"\xFf"`, `"\xA0"`, `"\x0A"`, `"\x 4"`, `"\x-1"`, `"\x4 "`, "\"\\x4\xb9\"", "\"\\x4٣\"", `"\x:0"`, `"\x/0"`, "\"\\x`0\"", `"\x@0"`, // digits
		`"a"b`, `"a""b"`, `"a"#`, `"a"\`, `""x`, `"""`, `"a".`, "\"a\"\x00", "\"a\"\v", "\"a\"é", "\"a\"\xff", // right behind
		"\"é\"", "\"\xff\"", "\"\xc3\"", "\"a\x7f\"", "\"\x1f\"", "\"\t\"", "\"\r\"", "\"\x00\"", "\"\u2028\"", "\"\ufffd\"", "\"\xed\xa0\x80\"", // bytes
	} {
		breaks(t, "write b "+quoted, 1, api.ErrBytes)
		breaks(t, "write b "+quoted+"\nclose a", 1, api.ErrBytes)
		breaks(t, quoted, 1, api.ErrBytes)
		breaks(t, "paths 9\nfoo bar "+quoted+" x", 2, api.ErrBytes)
		breaks(t, "close a\npaths x "+quoted, 2, api.ErrBytes)
		takes(t, "#"+strings.ReplaceAll(quoted, "\n", ""))
	}
	breaks(t, `write b "x" "`, 1, api.ErrBytes)
	breaks(t, `write b "x" "y"`, 1, api.ErrWord)
}

// TestQuotationMarksWithin: a word with one that is not at its beginning is a word like any other.
func TestQuotationMarksWithin(t *testing.T) {
	breaks(t, `clo"se a`, 1, api.ErrWord)
	breaks(t, `close a"`, 1, api.ErrWord)
	breaks(t, `close a"b`, 1, api.ErrWord)
	breaks(t, `tick a 5"`, 1, api.ErrNumber)
	breaks(t, `tick a 5"5"`, 1, api.ErrNumber)
	breaks(t, `write a b"c"`, 1, api.ErrBytes)
	breaks(t, `write a b"c d"`, 1, api.ErrWord)
	breaks(t, `write a \"c"`, 1, api.ErrBytes)
}

// TestNoUtf8: bytes that are none, in quotes (above), in a remark and in a word.
func TestNoUtf8(t *testing.T) {
	for _, raw := range []string{"\xff", "\x80", "\xc3", "\xe2\x82", "\xf0\x9f\x98", "\xc0\xaf", "\xed\xa0\x80", "\xfe\xff"} {
		gives(t, "close a #"+raw+"\n#"+raw, withSteps(api.Step{Kind: api.StepClose}))
		breaks(t, raw, 1, api.ErrWord)
		breaks(t, raw+" a", 1, api.ErrWord)
		breaks(t, "close"+raw+" a", 1, api.ErrWord)
		breaks(t, "close a"+raw, 1, api.ErrWord)
		breaks(t, "close "+raw+"a", 1, api.ErrWord)
		breaks(t, "tick a "+raw+"5", 1, api.ErrNumber)
		breaks(t, "tick a 5"+raw, 1, api.ErrNumber)
		breaks(t, "write a "+raw, 1, api.ErrBytes)
		breaks(t, "write a "+raw+"\"x\"", 1, api.ErrBytes)
		breaks(t, "#"+raw+"\n"+raw+"\n", 2, api.ErrWord)
	}
}

func TestInts(t *testing.T) {
	for text, n := range map[string]int{"0": 0, "1": 1, "-1": -1, "9": 9, "10": 10, "-10": -10, "100": 100, "9223372036854775807": 1<<63 - 1, "-9223372036854775808": -1 << 63, "9223372036854775799": 1<<63 - 9} {
		gives(t, "read a "+text, withSteps(api.Step{Kind: api.StepRead, N: n}))
		gives(t, "down "+text, withSteps(api.Step{Kind: api.StepDown, Path: n}))
		gives(t, "spoil a 0 0 "+text+" 0", withSteps(api.Step{Kind: api.StepSpoil, At: n}))
	}
	for _, text := range []string{"-0", "00", "01", "-01", "-00", "-", "--1", "+", "+1", "+0", "1-", "-1-", "1.", "1.0", "0x1", "0x", "1e3", "1_000", "x", "1x", "x1", "0-", "0b1", "0o7", "٣", "1٣", "１", "9223372036854775808", "-9223372036854775809", "18446744073709551615", "18446744073709551616", strings.Repeat("1", 5000), "-" + strings.Repeat("9", 5000), strings.Repeat("0", 5000), `"1"`, `""`, `"-1"`, "a", "on", "\x001", "1\x00"} {
		for _, ahead := range []string{"paths ", "mss ", "send ", "recv ", "gaps ", "retries ", "bag ", "weights ", "weights 1 ", "pick a 0 0 ", "read a ", "tick b ", "deliver a 0 ", "drop a 0 ", "double a 0 ", "down ", "up ", "flush ", "leave a "} {
			breaks(t, ahead+text, 1, api.ErrNumber)
		}
		for _, behind := range []string{" 0 0", " 1 x"} {
			breaks(t, "pick a "+text+behind, 1, api.ErrNumber)
		}
		breaks(t, "spoil a "+text+" 0 0 0", 1, api.ErrNumber)
		breaks(t, "spoil a 0 "+text+" 0 0", 1, api.ErrNumber)
		breaks(t, "spoil a 0 0 "+text+" 0", 1, api.ErrNumber)
		breaks(t, "deliver a "+text+" 0", 1, api.ErrNumber)
		breaks(t, "join a "+text+" on", 1, api.ErrNumber)
		breaks(t, "prio a "+text+" on", 1, api.ErrNumber)
	}
}

func TestLongs(t *testing.T) {
	for text, n := range map[string]uint64{"0": 0, "7": 7, "9223372036854775808": 1 << 63, "18446744073709551615": 1<<64 - 1} {
		want := withSteps()
		want.Config.Keys[1] = n
		gives(t, "key b "+text, want)
		want = withSteps()
		want.Config.Picks[1] = []api.Pick{{Off: n}}
		gives(t, "pick b 0 "+text+" 0", want)
	}
	for _, text := range []string{"-1", "-0", "-9223372036854775808", "00", "01", "-", "+1", "18446744073709551616", "99999999999999999999", strings.Repeat("1", 5000), "0x1", "1_0", "", "x"} {
		if text == "" {
			text = `""`
		}
		breaks(t, "key a "+text, 1, api.ErrNumber)
		breaks(t, "key b "+text, 1, api.ErrNumber)
		breaks(t, "base a "+text, 1, api.ErrNumber)
		breaks(t, "base b "+text, 1, api.ErrNumber)
		breaks(t, "pick a 0 "+text+" 0", 1, api.ErrNumber)
	}
	breaks(t, "base a 4611686018427387905", 0, api.ErrFit)
	breaks(t, "base b 18446744073709551615", 0, api.ErrFit)
}

func TestBytesNumbers(t *testing.T) {
	for text, n := range map[string]byte{"0": 0, "1": 1, "99": 99, "200": 200, "255": 255} {
		gives(t, "spoil a 0 0 0 "+text, withSteps(api.Step{Kind: api.StepSpoil, Mask: n}))
	}
	for _, text := range []string{"-1", "-0", "256", "257", "300", "511", "512", "1000", "18446744073709551616", "00", "01", "0255", "-", "+1", "0xff", `"1"`, "on", strings.Repeat("2", 999)} {
		breaks(t, "spoil a 0 0 0 "+text, 1, api.ErrNumber)
	}
}

func TestSidesFlagsSchedulers(t *testing.T) {
	for _, side := range []string{"c", "A", "B", "0", "1", "ab", "aa", "-", `"a"`, `"b"`, `""`, "a\x00", "à"} {
		for _, line := range []string{`write S "x"`, "read S 1", "close S", "abort S", "tick S 1", "deliver S 0 0", "drop S 0 0", "double S 0 0", "spoil S 0 0 0 0", "join S 0 on", "prio S 0 on", "leave S 0", "key S 1", "base S 1", "pick S 0 0 0"} {
			breaks(t, strings.Replace(line, "S", side, 1), 1, api.ErrWord)
		}
	}
	for _, flag := range []string{"On", "ON", "OFF", "yes", "true", "1", "0", "o", "onn", `"on"`, `"off"`, `""`, "off."} {
		breaks(t, "join a 0 "+flag, 1, api.ErrWord)
		breaks(t, "prio b 0 "+flag, 1, api.ErrWord)
	}
	for _, s := range []string{"MinRtt", "minRtt", "min", "best", "0", "5", `"minrtt"`, `""`, "singles", "round", "-"} {
		breaks(t, "sched "+s, 1, api.ErrWord)
	}
}

func TestFirstWord(t *testing.T) {
	for _, line := range []string{"x", "Write a \"x\"", "WRITE a \"x\"", `"write" a "x"`, `"close" a`, `"paths" 1`, `""`, `"x"`, "path 1", "pathss 1", "a", "5", "-", "closed a", "clos a", "ends", "weight 1", "keys a 1", "bases a 1", "picks a 0 0 0", "stop", "do close a", "(close a)"} {
		breaks(t, line, 1, api.ErrWord)
		breaks(t, "close a\n"+line, 2, api.ErrWord)
	}
}

func TestHowManyWords(t *testing.T) {
	all := configLines()
	for _, c := range stepLines() {
		all = append(all, c.line)
	}
	for _, line := range all {
		takes(t, line)
		words := strings.Fields(line)
		breaks(t, strings.Join(words[:len(words)-1], " "), 1, api.ErrWord)
		breaks(t, words[0], 1, api.ErrWord)
		breaks(t, strings.Join(words[:len(words)-1], " ")+" # "+words[len(words)-1], 1, api.ErrWord)
		if words[0] != "weights" {
			breaks(t, line+" 1", 1, api.ErrWord)
			breaks(t, line+` ""`, 1, api.ErrWord)
			breaks(t, line+" 1 1", 1, api.ErrWord)
			breaks(t, line+" "+line, 1, api.ErrWord)
		}
		takes(t, line+" # 1")
	}
	takes(t, "paths 8\nweights 1 1 1 1 1 1 1 1")
	breaks(t, "paths 8\nweights 1 1 1 1 1 1 1 1 1", 0, api.ErrFit)
	breaks(t, "weights"+strings.Repeat(" 1", 100000), 0, api.ErrFit)
	breaks(t, "weights 1 x 1", 1, api.ErrNumber)
}

func TestTwice(t *testing.T) {
	for _, line := range configLines() {
		first := strings.Fields(line)
		if first[0] == "pick" {
			takes(t, line+"\n"+line)
			continue
		}
		breaks(t, line+"\n"+line, 2, api.ErrTwice)
		breaks(t, line+"\n# x\n\n"+line, 4, api.ErrTwice)
		breaks(t, line+"\n"+strings.Join(first[:len(first)-1], " ")+" x", 2, api.ErrTwice)
		breaks(t, line+"\n"+strings.Join(first[:len(first)-1], " "), 2, api.ErrWord)
		breaks(t, line+"\n"+line+" \"", 2, api.ErrBytes)
		breaks(t, "gaps 0\n"+strings.Replace(line, "gaps 5", "bag 5", 1)+"\n"+strings.Replace(line, "gaps 5", "bag 5", 1), 3, api.ErrTwice)
	}
	breaks(t, "weights 1\nweights 1 2", 2, api.ErrTwice)
	takes(t, "paths 1\nmss 100")
	for _, word := range []string{"key", "base"} {
		takes(t, lines(word+" a 1 / "+word+" b 1"))
		takes(t, lines(word+" b 1 / "+word+" a 1"))
		breaks(t, lines(word+" a 1 / "+word+" b 1 / "+word+" a 1"), 3, api.ErrTwice)
		breaks(t, lines(word+" a 1 / "+word+" b 1 / "+word+" b 2"), 3, api.ErrTwice)
		breaks(t, lines(word+" a 1 / "+word+" c 1"), 2, api.ErrWord)
		breaks(t, lines(word+" a 1 / "+word+` "a" 1`), 2, api.ErrWord)
		breaks(t, lines(word+" a 1 / "+word+` "" 1`), 2, api.ErrWord)
		breaks(t, lines(word+" b 1 / "+word+` "b" x`), 2, api.ErrWord)
		breaks(t, lines(word+" a 1 / "+word+" a -1"), 2, api.ErrTwice)
		breaks(t, lines(word+" a 1 / "+word+" b -1"), 2, api.ErrNumber)
	}
	takes(t, lines("key a 1 / base a 1 / key b 1 / base b 1"))
}

func TestPlace(t *testing.T) {
	for _, step := range stepLines() {
		for _, line := range configLines() {
			breaks(t, step.line+"\n"+line, 2, api.ErrPlace)
		}
	}
	for _, line := range configLines() {
		words := strings.Fields(line)
		breaks(t, line+"\nclose a\n\n"+line, 4, api.ErrPlace)
		breaks(t, "close a\n"+strings.Join(words[:len(words)-1], " ")+" x", 2, api.ErrPlace)
		breaks(t, "close a\n"+strings.Join(words[:len(words)-1], " "), 2, api.ErrWord)
		breaks(t, "close a\n"+line+" \"x", 2, api.ErrBytes)
		takes(t, line+"\nclose a")
	}
	breaks(t, "close a\nkey c 1", 2, api.ErrPlace)
	breaks(t, "close a\nbase \"a\" x", 2, api.ErrPlace)
	breaks(t, "key a 1\nclose a\nkey a 1", 3, api.ErrPlace)
	breaks(t, "close c\npaths 2", 1, api.ErrWord)
}

// TestFirstInLine: where a line is broken in several ways.
func TestFirstInLine(t *testing.T) {
	for _, c := range []struct {
		line string
		e    api.Errno
	}{
		{`read c x`, api.ErrWord}, {`read a x`, api.ErrNumber}, {`read x`, api.ErrWord},
		{`deliver c x y`, api.ErrWord}, {`deliver a x y`, api.ErrNumber},
		{`join a x yes`, api.ErrNumber}, {`join c x yes`, api.ErrWord}, {`join a 1 yes`, api.ErrWord},
		{`write c x`, api.ErrWord}, {`write a x`, api.ErrBytes}, {`write "a" x`, api.ErrWord}, {`write "a" "x"`, api.ErrWord},
		{`pick a x -1 y`, api.ErrNumber}, {`pick c x -1 y`, api.ErrWord},
		{`nope c x "`, api.ErrBytes}, {`nope c x`, api.ErrWord}, {`join a 1 yes "a"b`, api.ErrBytes},
		{`key c -1`, api.ErrWord}, {`key a -1`, api.ErrNumber}, {`spoil a 0 0 x 256`, api.ErrNumber},
		{`nope # "`, api.ErrWord}, {`nope #"`, api.ErrWord}, {`nope a#"`, api.ErrWord}, {`nope a# "`, api.ErrBytes},
	} {
		breaks(t, c.line, 1, c.e)
	}
}

// TestFirstLine: errors in two lines, and a configuration that may not be.
func TestFirstLine(t *testing.T) {
	breaks(t, lines("tick a x / close c"), 1, api.ErrNumber)
	breaks(t, lines("close c / tick a x"), 1, api.ErrWord)
	breaks(t, lines(`close a / mss 5 / write a "`), 2, api.ErrPlace)
	breaks(t, lines(`mss 5 / mss 5 / nope`), 2, api.ErrTwice)
	for _, bad := range []string{"paths 0", "paths 9", "mss 0", "mss 1025", "mss 1001", "send 0", "send 65537", "recv 99", "recv 65537", "gaps 0", "gaps 65", "retries 0", "retries 17", "bag 0", "bag 1073741825", "weights 0", "weights 256", "weights 1 1", "base a 4611686018427387905", "base b 4611686018427387905", "paths -9223372036854775808", "mss -1"} {
		breaks(t, bad, 0, api.ErrFit)
		breaks(t, bad+"\nclose a", 0, api.ErrFit)
		breaks(t, bad+"\nclose c", 2, api.ErrWord)
		breaks(t, "\n"+bad+"\n"+bad, 3, api.ErrTwice)
		breaks(t, bad+"\nclose a\n\""+bad, 3, api.ErrBytes)
	}
	takes(t, lines("recv 50 / mss 50"))
	takes(t, lines("weights 1 1 / paths 2"))
}

func stepWith(kind int, set func(s *api.Step)) api.Step {
	s := api.Step{Kind: kind}
	set(&s)
	return s
}

// TestFitFields: each Kind with each field set, which its row names or does not.
func TestFitFields(t *testing.T) {
	named := [api.NumSteps]string{"", "SD", "SN", "S", "S", "SN", "SPN", "SPN", "SPN", "SPNAM", "P", "P", "P", "SPO", "SPO", "SP"}
	sets := map[string][]func(s *api.Step){
		"S": {func(s *api.Step) { s.Side = 1 }},
		"P": {func(s *api.Step) { s.Path = 1 }, func(s *api.Step) { s.Path = -1 }, func(s *api.Step) { s.Path = -1 << 63 }},
		"N": {func(s *api.Step) { s.N = 1 }, func(s *api.Step) { s.N = -1 }, func(s *api.Step) { s.N = 1 << 32 }},
		"A": {func(s *api.Step) { s.At = 1 }, func(s *api.Step) { s.At = -1 }, func(s *api.Step) { s.At = 1 << 62 }},
		"M": {func(s *api.Step) { s.Mask = 1 }, func(s *api.Step) { s.Mask = 255 }},
		"O": {func(s *api.Step) { s.On = true }},
		"D": {func(s *api.Step) { s.Data = []byte{0} }, func(s *api.Step) { s.Data = []byte("abc") }},
	}
	for kind := 1; kind < api.NumSteps; kind++ {
		fits(t, api.Step{Kind: kind}, true)
		fits(t, api.Step{Kind: kind, Data: []byte{}}, true)
		for field, list := range sets {
			for _, set := range list {
				fits(t, stepWith(kind, set), strings.Contains(named[kind], field))
			}
		}
		for _, side := range []int{-1, 2, 3, -1 << 63, 1<<63 - 1, 256} {
			fits(t, api.Step{Kind: kind, Side: side}, false)
		}
	}
	for _, kind := range []int{0, -1, -5, api.NumSteps, api.NumSteps + 1, 20, 257, -1 << 63, 1<<63 - 1} {
		fits(t, api.Step{Kind: kind}, false)
		fits(t, api.Step{Kind: kind, Side: 1, Data: []byte("x")}, false)
	}
}

// fits asks Fit and Print of a script with that step at each place.
func fits(t *testing.T, s api.Step, want bool) {
	t.Helper()
	good := api.Step{Kind: api.StepDown, Path: 1}
	for _, x := range []api.Script{withSteps(s), withSteps(good, s), withSteps(s, good), withSteps(good, s, good)} {
		if script.Fit(x) != want {
			t.Errorf("%+v: fit %v", s, !want)
		}
		if (script.Print(x) != "") != want {
			t.Errorf("%+v: printed %q", s, script.Print(x))
		}
	}
}

func TestFitConfig(t *testing.T) {
	if !script.Fit(withSteps()) || script.Fit(api.Script{}) || script.Print(api.Script{}) != "" {
		t.Error("the zero script, or the plain one")
	}
	for _, set := range []func(c *api.Config){
		func(c *api.Config) { c.Paths = 0 }, func(c *api.Config) { c.Paths = 9 }, func(c *api.Config) { c.Mss = 1001 }, func(c *api.Config) { c.SendBuf = 0 }, func(c *api.Config) { c.RecvBuf = 99 },
		func(c *api.Config) { c.Gaps = 65 }, func(c *api.Config) { c.Retries = 0 }, func(c *api.Config) { c.Bag = 0 }, func(c *api.Config) { c.Sched = 6 }, func(c *api.Config) { c.Sched = -1 },
		func(c *api.Config) { c.Weights = []int{1, 1} }, func(c *api.Config) { c.Weights = []int{0} }, func(c *api.Config) { c.Base[0] = 1<<62 + 1 }, func(c *api.Config) { c.Base[1] = 1 << 63 },
	} {
		s := withSteps(api.Step{Kind: api.StepClose})
		set(&s.Config)
		if script.Fit(s) || script.Print(s) != "" {
			t.Errorf("%+v", s.Config)
		}
	}
}
