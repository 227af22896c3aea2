package audit

import (
	"math"

	"braid/api"
	"braid/ivset"
)

// side is a side's report, as far as it has come, with the account out of which it is filled.
type side struct {
	account
	paths []path
}

// chunk is what one chunk has that another has not.
type chunk struct {
	kind int
	off  uint64
	size int
}

// account is what a side has sent, and what it has heard of its peer, as the rules ask for it.
type account struct {
	token  uint32 // of its own key
	base   uint64
	frames map[string]struct{} // those that it has sent and that can be read
	places map[chunk]uint64    // of its chunks, in the order in which each was sent first
	chunks int                 // those of them that have bytes
	said   text
	reach  uint64 // behind the greatest offset of its DATA; 0, if there is none
	// lowEnd and highEnd are the least and the greatest Off of its FINs; the greatest number and 0, if there is none.
	lowEnd, highEnd   uint64
	toldOff, toldEdge uint64 // the greatest of its DACKs
	reset             bool   // it has sent an RST, the last one at resetPlace, on resetPath
	resetPlace        int
	resetPath         int

	edge     uint64     // the greatest that it knows of
	came     *ivset.Set // offsets of the peer's bytes
	ends     *ivset.Set // offsets of the peer's ends
	wasReset bool
}

func newAccount(token uint32, base, edge uint64) account {
	return account{
		token: token, base: base, edge: edge, lowEnd: math.MaxUint64,
		frames: make(map[string]struct{}), places: make(map[chunk]uint64),
		said: newText(), came: ivset.New(), ends: ivset.New(),
	}
}

// placeOf is the place of a chunk; the next one, if it was not sent yet.
func (c *account) placeOf(x chunk) uint64 {
	if place, sent := c.places[x]; sent {
		return place
	}
	return uint64(len(c.places))
}

func (c *account) hasSent(x chunk) bool {
	_, sent := c.places[x]
	return sent
}

// heardUpTo is how far it has all of its peer's stream, which begins at base.
func (c *account) heardUpTo(base uint64) uint64 {
	gap := c.came.Gap(base)
	if c.ends.Has(gap) {
		return gap + 1
	}
	return gap
}

// stream is what the side's stream came to.
func (c *account) stream() api.StreamReport {
	r := api.StreamReport{High: c.base, Chunks: c.chunks, Ends: c.lowEnd != math.MaxUint64}
	if c.reach > 0 {
		r.High = c.reach
	}
	r.Bytes = c.said.bytes(api.Range{Lo: c.base, Hi: c.said.had.Gap(c.base)})
	return r
}

// reports is what the side's paths came to.
func (s *side) reports() []api.PathReport {
	l := make([]api.PathReport, len(s.paths))
	for p := range s.paths {
		l[p] = s.paths[p].PathReport
	}
	return l
}
