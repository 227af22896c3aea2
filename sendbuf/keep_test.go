package sendbuf

import "testing"

// P9.2: a chunk's bytes have no spare room that is another chunk's.
func TestPiecesEndWhereTheyEnd(t *testing.T) {
	b := New(0, 20, 3, 20)
	b.Write([]byte("abcdefgh"))
	for i, c := range b.chunks[:2] {
		if cap(c.bytes) != len(c.bytes) {
			t.Errorf("chunk %d has room for %d bytes, and %d of them", i, cap(c.bytes), len(c.bytes))
		}
	}
}

// Rule 8 of the language: what is acknowledged is not kept.
func TestAcknowledgedBytesAreLetGo(t *testing.T) {
	b := New(0, 20, 3, 20)
	b.Write([]byte("abcdef"))
	before := b.chunks
	b.Sent(0, 0)
	b.Ack(3, 0)
	if before[0].bytes != nil || before[1].bytes == nil || len(b.chunks) != 1 {
		t.Errorf("kept: %+v", before)
	}
}
