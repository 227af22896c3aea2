package script

import "braid/api"

// spot is a line's number, 0 for the whole text: where a panic says that it has broken.
type spot int

func (at spot) giveUp(e api.Errno) {
	panic(&api.LineError{Line: int(at), Err: e})
}

// word is one of a line. Of one in quotes the text is empty, which no other word's is: so it is no command, side, flag, scheduler or number.
type word struct {
	text   string
	quoted bool
	bytes  []byte
}

// What the rune that comes next stands in.
const (
	blank    = iota
	plain    // a word
	remark   // what says nothing
	quotes   // a word in quotes
	escape   // right behind a backslash
	highHalf // right behind \x
	lowHalf  // behind its first digit
	behind   // right behind the last quotation mark
)

// cutter takes a line apart, rune by rune.
type cutter struct {
	spot
	line  string
	state int
	begin int    // of the plain word
	bytes []byte // of the word in quotes
	words []word
}

// cut gives a line's words, up to the remark.
func cut(at spot, line string) []word {
	c := &cutter{spot: at, line: line}
	for i, r := range line {
		c.take(i, r)
	}
	switch c.state {
	case plain:
		c.endPlain(len(line))
	case quotes, escape, highHalf, lowHalf:
		c.giveUp(api.ErrBytes)
	}
	return c.words
}

func (c *cutter) take(i int, r rune) {
	switch c.state {
	case blank:
		c.first(i, r)
	case plain:
		if isBlank(r) {
			c.endPlain(i)
		}
	case quotes:
		c.inQuotes(r)
	case escape:
		c.escaped(r)
	case highHalf:
		c.bytes = append(c.bytes, c.digit(r)<<4)
		c.state = lowHalf
	case lowHalf:
		c.bytes[len(c.bytes)-1] |= c.digit(r)
		c.state = quotes
	case behind:
		if !isBlank(r) {
			c.giveUp(api.ErrBytes)
		}
		c.state = blank
	}
}

// first looks at a rune that would be a word's first one.
func (c *cutter) first(i int, r rune) {
	switch {
	case isBlank(r):
	case r == '#':
		c.state = remark
	case r == '"':
		c.bytes, c.state = nil, quotes
	default:
		c.begin, c.state = i, plain
	}
}

func (c *cutter) endPlain(end int) {
	c.words = append(c.words, word{text: c.line[c.begin:end]})
	c.state = blank
}

func (c *cutter) inQuotes(r rune) {
	switch {
	case r == '"':
		c.words = append(c.words, word{quoted: true, bytes: c.bytes})
		c.state = behind
	case r == '\\':
		c.state = escape
	case standsForItself(r):
		c.bytes = append(c.bytes, byte(r))
	default:
		c.giveUp(api.ErrBytes)
	}
}

func (c *cutter) escaped(r rune) {
	switch r {
	case '"', '\\':
		c.bytes = append(c.bytes, byte(r))
		c.state = quotes
	case 'x':
		c.state = highHalf
	default:
		c.giveUp(api.ErrBytes)
	}
}

// digit is the value of one of the sixteen; capital ones are none, as each byte has one form.
func (c *cutter) digit(r rune) byte {
	switch {
	case r >= '0' && r <= '9':
		return byte(r - '0')
	case r >= 'a' && r <= 'f':
		return byte(r - 'a' + 10)
	}
	c.giveUp(api.ErrBytes)
	return 0
}

func isBlank(r rune) bool { return r == ' ' || r == '\t' || r == '\r' }

// standsForItself is not asked about the quotation mark and the backslash.
func standsForItself(r rune) bool { return r >= 32 && r <= 126 }
