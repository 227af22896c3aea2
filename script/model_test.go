package script_test

import (
	"bytes"
	"fmt"
	"math/big"
	"regexp"
	"strconv"
	"strings"

	"braid/api"
	"braid/conn"
)

// The model reads the chapter's words by expressions: a line's words first, then the rules in their order.

var (
	quotedWord = regexp.MustCompile(`^"(?:[ !#-\[\]-~]|\\["\\]|\\x[0-9a-f][0-9a-f])*"`)
	escapedOne = regexp.MustCompile(`\\x..|\\.`)
	numberForm = regexp.MustCompile(`^(?:0|-?[1-9][0-9]*)$`)
)

// modelShapes: of each line its words, by capitals as the chapter has them: N int, U long, M a byte's number, S side, F flag, C scheduler, B bytes.
var modelShapes = map[string]string{
	"paths": "N", "mss": "N", "send": "N", "recv": "N", "gaps": "N", "retries": "N", "bag": "N", "sched": "C", "weights": "N", "key": "SU", "base": "SU", "pick": "SNUN",
	"write": "SB", "read": "SN", "close": "S", "abort": "S", "tick": "SN", "deliver": "SNN", "drop": "SNN", "double": "SNN", "spoil": "SNNNM",
	"down": "N", "up": "N", "flush": "N", "join": "SNF", "prio": "SNF", "leave": "SN",
}

var modelKinds = []string{"", "write", "read", "close", "abort", "tick", "deliver", "drop", "double", "spoil", "down", "up", "flush", "join", "prio", "leave"}

var modelScheds = []string{"minrtt", "roundrobin", "redundant", "blest", "replay", "single"}

func modelKind(word string) int {
	for k, w := range modelKinds {
		if k > 0 && w == word {
			return k
		}
	}
	return 0
}

// modelWords: a line's words as they stand there; false, if a word in quotes is none.
func modelWords(line string) ([]string, bool) {
	var words []string
	for {
		line = strings.TrimLeft(line, " \t\r")
		if line == "" || line[0] == '#' {
			return words, true
		}
		n := strings.IndexAny(line, " \t\r")
		if n < 0 {
			n = len(line)
		}
		if line[0] == '"' {
			n = len(quotedWord.FindString(line))
			if n == 0 || n < len(line) && !strings.ContainsAny(line[n:n+1], " \t\r") {
				return nil, false
			}
		}
		words = append(words, line[:n])
		line = line[n:]
	}
}

func modelNumber(word, least, most string) (*big.Int, bool) {
	n, ok := new(big.Int).SetString(word, 10)
	if !ok || !numberForm.MatchString(word) {
		return nil, false
	}
	lo, _ := new(big.Int).SetString(least, 10)
	hi, _ := new(big.Int).SetString(most, 10)
	return n, n.Cmp(lo) >= 0 && n.Cmp(hi) <= 0
}

// modelValue: a word's value, or the error of a word that is none.
func modelValue(shape byte, word string) (any, api.Errno) {
	switch shape {
	case 'S':
		if word != "a" && word != "b" {
			return nil, api.ErrWord
		}
		return int(word[0] - 'a'), 0
	case 'F':
		if word != "on" && word != "off" {
			return nil, api.ErrWord
		}
		return word == "on", 0
	case 'C':
		for n, s := range modelScheds {
			if s == word {
				return n, 0
			}
		}
		return nil, api.ErrWord
	case 'N':
		n, ok := modelNumber(word, "-9223372036854775808", "9223372036854775807")
		if !ok {
			return nil, api.ErrNumber
		}
		return int(n.Int64()), 0
	case 'U':
		n, ok := modelNumber(word, "0", "18446744073709551615")
		if !ok {
			return nil, api.ErrNumber
		}
		return n.Uint64(), 0
	case 'M':
		n, ok := modelNumber(word, "0", "255")
		if !ok {
			return nil, api.ErrNumber
		}
		return byte(n.Int64()), 0
	}
	if word[0] != '"' {
		return nil, api.ErrBytes
	}
	return []byte(escapedOne.ReplaceAllStringFunc(word[1:len(word)-1], func(e string) string {
		if e[1] != 'x' {
			return e[1:]
		}
		n, _ := strconv.ParseUint(e[2:], 16, 8)
		return string([]byte{byte(n)})
	})), 0
}

// modelText is Parse by the chapter's words: the script; or the line, and the error.
func modelText(text string) (api.Script, int, api.Errno) {
	if len(text) > 1<<20 {
		return api.Script{}, 0, api.ErrText
	}
	s := withSteps()
	was := map[string]bool{}
	for i, line := range strings.Split(text, "\n") {
		if e := modelLine(&s, was, line); e != 0 {
			return api.Script{}, i + 1, e
		}
	}
	if conn.Fit(s.Config) != api.OK {
		return api.Script{}, 0, api.ErrFit
	}
	return s, 0, 0
}

func modelLine(s *api.Script, was map[string]bool, line string) api.Errno {
	words, ok := modelWords(line)
	if !ok {
		return api.ErrBytes
	}
	if len(words) == 0 {
		return 0
	}
	name, rest := words[0], words[1:]
	shape, ok := modelShapes[name]
	if name == "weights" && len(rest) > 0 {
		shape = strings.Repeat("N", len(rest))
	}
	if !ok || len(shape) != len(rest) {
		return api.ErrWord
	}
	if modelKind(name) == 0 {
		if len(s.Steps) > 0 {
			return api.ErrPlace
		}
		which := name
		if name == "key" || name == "base" {
			which += rest[0]
		}
		if name != "pick" && was[which] {
			return api.ErrTwice
		}
		was[which] = true
	}
	var values []any
	for i, w := range rest {
		v, e := modelValue(shape[i], w)
		if e != 0 {
			return e
		}
		values = append(values, v)
	}
	modelSay(s, name, values)
	return 0
}

func modelSay(s *api.Script, name string, v []any) {
	c := &s.Config
	switch name {
	case "paths":
		c.Paths = v[0].(int)
	case "mss":
		c.Mss = v[0].(int)
	case "send":
		c.SendBuf = v[0].(int)
	case "recv":
		c.RecvBuf = v[0].(int)
	case "gaps":
		c.Gaps = v[0].(int)
	case "retries":
		c.Retries = v[0].(int)
	case "bag":
		c.Bag = v[0].(int)
	case "sched":
		c.Sched = v[0].(int)
	case "weights":
		for _, w := range v {
			c.Weights = append(c.Weights, w.(int))
		}
	case "key":
		c.Keys[v[0].(int)] = v[1].(uint64)
	case "base":
		c.Base[v[0].(int)] = v[1].(uint64)
	case "pick":
		c.Picks[v[0].(int)] = append(c.Picks[v[0].(int)], api.Pick{Path: v[1].(int), Off: v[2].(uint64), Len: v[3].(int)})
	default:
		s.Steps = append(s.Steps, modelStep(name, v))
	}
}

func modelStep(name string, v []any) api.Step {
	x := api.Step{Kind: modelKind(name)}
	switch name {
	case "write":
		x.Side, x.Data = v[0].(int), v[1].([]byte)
	case "read", "tick":
		x.Side, x.N = v[0].(int), v[1].(int)
	case "close", "abort":
		x.Side = v[0].(int)
	case "deliver", "drop", "double":
		x.Side, x.Path, x.N = v[0].(int), v[1].(int), v[2].(int)
	case "spoil":
		x.Side, x.Path, x.N, x.At, x.Mask = v[0].(int), v[1].(int), v[2].(int), v[3].(int), v[4].(byte)
	case "down", "up", "flush":
		x.Path = v[0].(int)
	case "join", "prio":
		x.Side, x.Path, x.On = v[0].(int), v[1].(int), v[2].(bool)
	case "leave":
		x.Side, x.Path = v[0].(int), v[1].(int)
	}
	return x
}

// modelPrint is Print of a fit script by the chapter's words.
func modelPrint(s api.Script) string {
	var b bytes.Buffer
	c := s.Config
	fmt.Fprintf(&b, "paths %d\nmss %d\nsend %d\nrecv %d\ngaps %d\nretries %d\nbag %d\nsched %s\n", c.Paths, c.Mss, c.SendBuf, c.RecvBuf, c.Gaps, c.Retries, c.Bag, modelScheds[c.Sched])
	if len(c.Weights) > 0 {
		fmt.Fprintf(&b, "weights %s\n", strings.Trim(fmt.Sprint(c.Weights), "[]"))
	}
	fmt.Fprintf(&b, "key a %d\nkey b %d\nbase a %d\nbase b %d\n", c.Keys[0], c.Keys[1], c.Base[0], c.Base[1])
	for side, l := range c.Picks {
		for _, p := range l {
			fmt.Fprintf(&b, "pick %c %d %d %d\n", 'a'+side, p.Path, p.Off, p.Len)
		}
	}
	for _, x := range s.Steps {
		fmt.Fprintf(&b, "%s%s\n", modelKinds[x.Kind], modelFields(x))
	}
	return b.String()
}

func modelFields(x api.Step) string {
	flag := map[bool]string{true: "on", false: "off"}[x.On]
	side := " " + string(rune('a'+x.Side))
	switch x.Kind {
	case api.StepWrite:
		return side + " " + modelQuote(x.Data)
	case api.StepRead, api.StepTick:
		return side + fmt.Sprintf(" %d", x.N)
	case api.StepClose, api.StepAbort:
		return side
	case api.StepDeliver, api.StepDrop, api.StepDouble:
		return side + fmt.Sprintf(" %d %d", x.Path, x.N)
	case api.StepSpoil:
		return side + fmt.Sprintf(" %d %d %d %d", x.Path, x.N, x.At, x.Mask)
	case api.StepDown, api.StepUp, api.StepFlush:
		return fmt.Sprintf(" %d", x.Path)
	case api.StepLeave:
		return side + fmt.Sprintf(" %d", x.Path)
	}
	return side + fmt.Sprintf(" %d %s", x.Path, flag)
}

func modelQuote(data []byte) string {
	out := `"`
	for _, x := range data {
		switch {
		case x == '"':
			out += `\"`
		case x == '\\':
			out += `\\`
		case x < ' ' || x > '~':
			out += fmt.Sprintf(`\x%02x`, x)
		default:
			out += string(rune(x))
		}
	}
	return out + `"`
}
