package transfer

import "braid/api"

// How many bytes a piece's number has, in requests, answers and records.
const numberSize = 4

const sumSize = len(api.Sum{})

// numbered is b with the last size bytes of n behind it, the highest one first.
func numbered(b []byte, n uint64, size int) []byte {
	for i := size - 1; i >= 0; i-- {
		b = append(b, byte(n>>(8*i)))
	}
	return b
}

// named is b with a name behind it, which has at most 255 bytes.
func named(b []byte, name string) []byte {
	b = append(b, byte(len(name)))
	return append(b, name...)
}

// cursor reads bytes from their first one on. Where there are too few it is short from then on, and what it gives is of no weight.
type cursor struct {
	left  []byte
	short bool
}

func (c *cursor) take(n int) []byte {
	if n > len(c.left) {
		c.left, c.short = nil, true
		return make([]byte, n)
	}
	b := c.left[:n:n]
	c.left = c.left[n:]
	return b
}

// number is one of at most four bytes.
func (c *cursor) number(size int) int {
	n := 0
	for _, x := range c.take(size) {
		n = n<<8 | int(x)
	}
	return n
}

func (c *cursor) name() string { return string(c.take(c.number(1))) }

func (c *cursor) root() api.Sum {
	var s api.Sum
	copy(s[:], c.take(sumSize))
	return s
}

// numbers is those of pieces, as rising stretches, that are gone through one by one.
type numbers []api.Range

// pop takes the least one.
func (l *numbers) pop() (int, bool) {
	if len(*l) == 0 {
		return 0, false
	}
	first := &(*l)[0]
	n := first.Lo
	first.Lo++
	if first.Lo == first.Hi {
		*l = (*l)[1:]
	}
	return int(n), true
}
