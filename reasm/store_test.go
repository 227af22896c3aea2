package reasm

import "testing"

// What was read is not kept: however long a stream is, no more blocks are there than the buffer's room reaches into.
func TestNoMoreIsKept(t *testing.T) {
	const room = 3 * blockSize
	b, _ := New(5, room, 4)
	chunk := make([]byte, 700)
	for at := uint64(5); at < 200000; at += 700 {
		b.Take(at, chunk)
		if n := len(b.bytes); n > room/blockSize+1 {
			t.Fatalf("%d blocks", n)
		}
		b.Read(1000)
		if n, ranges := len(b.bytes), b.Len(); ranges == 0 && n > 1 {
			t.Fatalf("%d blocks of an empty buffer", n)
		}
	}
}
