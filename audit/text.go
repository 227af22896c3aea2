package audit

import (
	"bytes"

	"braid/api"
	"braid/ivset"
)

// blockSize is how many offsets share one place of the map: a place for each by itself would cost many times its byte.
const blockSize = 1024

type block [blockSize]byte

// text is bytes by their offsets, as they were said first.
type text struct {
	had    *ivset.Set // offsets of which a byte was said
	blocks map[uint64]*block
}

func newText() text { return text{had: ivset.New(), blocks: make(map[uint64]*block)} }

// common is what of r the set has.
func common(s *ivset.Set, r api.Range) []api.Range {
	return ivset.New(s.Missing(r)...).Missing(r)
}

func spanOf(off uint64, b []byte) api.Range { return api.Range{Lo: off, Hi: off + uint64(len(b))} }

// any tells whether a byte was said of an offset of r.
func (t text) any(r api.Range) bool { return len(common(t.had, r)) > 0 }

// differs tells whether other bytes than these were said from off on.
func (t text) differs(off uint64, b []byte) bool {
	for _, r := range common(t.had, spanOf(off, b)) {
		if !bytes.Equal(t.bytes(r), b[r.Lo-off:r.Hi-off]) {
			return true
		}
	}
	return false
}

// bytes is what was said of offsets of each of which something was.
func (t text) bytes(r api.Range) []byte {
	b := make([]byte, 0, r.Hi-r.Lo)
	for r.Lo < r.Hi {
		from := r.Lo % blockSize
		to := min(blockSize, from+r.Hi-r.Lo)
		b = append(b, t.blocks[r.Lo/blockSize][from:to]...)
		r.Lo += to - from
	}
	return b
}

// say lays down the bytes of offsets of which nothing was said.
func (t text) say(off uint64, b []byte) {
	span := spanOf(off, b)
	for _, r := range t.had.Missing(span) {
		t.lay(r.Lo, b[r.Lo-off:r.Hi-off])
	}
	t.had.Add(span)
}

func (t text) lay(off uint64, b []byte) {
	for len(b) > 0 {
		k := off / blockSize
		if t.blocks[k] == nil {
			t.blocks[k] = new(block)
		}
		n := copy(t.blocks[k][off%blockSize:], b)
		off += uint64(n)
		b = b[n:]
	}
}
