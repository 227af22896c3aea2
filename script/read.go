package script

import (
	"slices"
	"strconv"
	"strings"

	"braid/api"
	"braid/conn"
)

// setting names a line of the configuration that may stand once: a key and a base once a side.
type setting struct{ word, side string }

// reader is a script as far as its text was gone through.
type reader struct {
	script   api.Script
	at       spot // the line that was begun last
	commands map[string]command
	seen     map[setting]spot
}

// read gives up by a panic with a *api.LineError.
func read(text string) api.Script {
	if len(text) > api.MaxText {
		spot(0).giveUp(api.ErrText)
	}
	r := &reader{commands: commands(), seen: map[setting]spot{}}
	r.script.Config = withoutLines()
	begin := 0
	for i, c := range text {
		if c == '\n' {
			r.line(text[begin:i])
			begin = i + 1
		}
	}
	r.line(text[begin:])
	if conn.Fit(r.script.Config) != api.OK {
		spot(0).giveUp(api.ErrFit)
	}
	return r.script
}

// line counts every line, also one that says nothing.
func (r *reader) line(text string) {
	r.at++
	if words := cut(r.at, text); len(words) > 0 {
		r.take(r.at, words)
	}
}

func (r *reader) take(at spot, words []word) {
	c, ok := r.commands[words[0].text]
	if !ok || len(words) < c.words || len(words) > c.words && !c.more {
		at.giveUp(api.ErrWord)
	}
	if c.kind != 0 {
		r.script.Steps = append(r.script.Steps, at.step(c.kind, words[1:]))
		return
	}
	if len(r.script.Steps) > 0 {
		at.giveUp(api.ErrPlace)
	}
	r.once(at, words)
	at.set(&r.script.Config, words[0].text, words[1:])
}

// once need not ask whether the word behind a key or a base is a side: if it is none the line breaks anyhow, and none like it was there.
func (r *reader) once(at spot, words []word) {
	s := setting{word: words[0].text}
	switch s.word {
	case wordPick:
		return
	case wordKey, wordBase:
		s.side = words[1].text
	}
	if r.seen[s] != 0 {
		at.giveUp(api.ErrTwice)
	}
	r.seen[s] = at
}

func (at spot) step(kind int, words []word) api.Step {
	s := api.Step{Kind: kind}
	for i, field := range steps[kind].fields {
		at.setField(&s, field, words[i])
	}
	return s
}

func (at spot) setField(s *api.Step, field rune, w word) {
	switch field {
	case inSide:
		s.Side = at.oneOf(sides(), w)
	case inPath:
		s.Path = at.signed(w)
	case inN:
		s.N = at.signed(w)
	case inAt:
		s.At = at.signed(w)
	case inMask:
		s.Mask = byte(at.unsigned(w, 8))
	case inOn:
		s.On = at.oneOf(flags(), w) == 1
	case inData:
		s.Data = at.data(w)
	}
}

// set reads the words one by one, from the left: the first that is wrong tells the error.
func (at spot) set(c *api.Config, name string, words []word) {
	switch name {
	case wordSched:
		c.Sched = at.oneOf(schedulers(), words[0])
	case wordWeights:
		for _, w := range words {
			c.Weights = append(c.Weights, at.signed(w))
		}
	case wordKey:
		side := at.oneOf(sides(), words[0])
		c.Keys[side] = at.unsigned(words[1], 64)
	case wordBase:
		side := at.oneOf(sides(), words[0])
		c.Base[side] = at.unsigned(words[1], 64)
	case wordPick:
		side := at.oneOf(sides(), words[0])
		p := api.Pick{Path: at.signed(words[1])}
		p.Off = at.unsigned(words[2], 64)
		p.Len = at.signed(words[3])
		c.Picks[side] = append(c.Picks[side], p)
	default:
		for i, field := range numberFields(c) {
			if numbers[i].word == name {
				*field = at.signed(words[0])
			}
		}
	}
}

// oneOf is where the word stands among the names.
func (at spot) oneOf(names []string, w word) int {
	i := slices.Index(names, w.text)
	if i < 0 {
		at.giveUp(api.ErrWord)
	}
	return i
}

func (at spot) signed(w word) int {
	n, err := strconv.ParseInt(w.text, 10, 64)
	if err != nil || !isNumber(w.text) {
		at.giveUp(api.ErrNumber)
	}
	return int(n)
}

func (at spot) unsigned(w word, bits int) uint64 {
	n, err := strconv.ParseUint(w.text, 10, bits)
	if err != nil || !isNumber(w.text) {
		at.giveUp(api.ErrNumber)
	}
	return n
}

func (at spot) data(w word) []byte {
	if !w.quoted {
		at.giveUp(api.ErrBytes)
	}
	return w.bytes
}

// isNumber looks at the form alone, as strconv takes a sign and zeros ahead that may not stand here.
func isNumber(text string) bool {
	digits := strings.TrimPrefix(text, "-")
	if digits == "" || digits[0] == '0' {
		return text == "0"
	}
	for _, r := range digits {
		if r < '0' || r > '9' {
			return false
		}
	}
	return true
}
