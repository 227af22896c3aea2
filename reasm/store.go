package reasm

// blockSize is how many bytes lie together: so many as a chunk may have.
const blockSize = 1024

// store is bytes by their offsets, a block a key. It has blocks only where bytes were put: so a great buffer with little in it is small.
type store map[uint64][]byte

// put lays bytes down from an offset on.
func (s store) put(off uint64, data []byte) {
	for len(data) > 0 {
		if s[off/blockSize] == nil {
			s[off/blockSize] = make([]byte, blockSize)
		}
		n := copy(s.piece(off, off+uint64(len(data))), data)
		data = data[n:]
		off += uint64(n)
	}
}

// get is the bytes from an offset on, up to another one.
func (s store) get(from, to uint64) []byte {
	out := make([]byte, to-from)
	for rest := out; len(rest) > 0; {
		n := copy(rest, s.piece(from, to))
		rest = rest[n:]
		from += uint64(n)
	}
	return out
}

// piece is where bytes from an offset on, up to another one, lie: as many as lie in one block. It ends there, so that nobody appends into what lies behind.
func (s store) piece(from, to uint64) []byte {
	lo := from % blockSize
	hi := min(lo+to-from, blockSize)
	return s[from/blockSize][lo:hi:hi]
}

// forget drops the blocks that have no byte from the second offset on; the first one says where the last call ended.
func (s store) forget(from, to uint64) {
	for i := from / blockSize; i < to/blockSize; i++ {
		delete(s, i)
	}
}
