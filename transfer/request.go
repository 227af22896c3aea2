package transfer

import "braid/api"

// The first bytes of requests and of answers.
const (
	askManifest = 'M'
	askPieces   = 'P'
	sayNone     = 'N'
	sayChanged  = 'C'
	sayYes      = 'Y'
)

// How many bytes tell how many stretches there are, and how many bytes a manifest has.
const countSize = 2

// request is what is written on a stream by who wants something.
type request struct {
	name string
	root api.Sum
	ask  numbers // the pieces; none: the manifest is asked for
}

func (q request) bytes() []byte {
	if len(q.ask) == 0 {
		return named([]byte{askManifest}, q.name)
	}
	b := named([]byte{askPieces}, q.name)
	b = append(b, q.root[:]...)
	b = numbered(b, uint64(len(q.ask)), countSize)
	for _, r := range q.ask {
		b = numbered(b, r.Lo, numberSize)
		b = numbered(b, r.Hi, numberSize)
	}
	return b
}

// readRequest is the request that bytes are, if they are one.
func readRequest(b []byte) (request, bool) {
	c := cursor{left: b}
	kind := c.number(1)
	q := request{name: c.name()}
	switch kind {
	case askManifest:
	case askPieces:
		q.root = c.root()
		q.ask = c.stretches()
		c.short = c.short || len(q.ask) == 0
	default:
		return request{}, false
	}
	return q, !c.short && len(c.left) == 0
}

// stretches is as many as may be asked for, rising and apart from one another; none, if what stands there is otherwise.
func (c *cursor) stretches() numbers {
	n := c.number(countSize)
	if n > api.MaxAsk {
		return nil
	}
	var l numbers
	least := uint64(0)
	for range n {
		r := api.Range{Lo: uint64(c.number(numberSize)), Hi: uint64(c.number(numberSize))}
		if r.Lo < least || r.Lo >= r.Hi {
			return nil
		}
		l = append(l, r)
		least = r.Hi + 1
	}
	return l
}
