package pieces

import (
	"testing"

	"braid/api"
)

// What is kept is no more than is needed: a manifest alone has no room for its file.
func TestRoomComesWithPieces(t *testing.T) {
	s, _ := New(api.Manifest{Name: "x", Size: api.MaxFile, Piece: 1})
	s.Mark(-1, []byte{1})
	s.Mark(0, []byte{1, 2})
	s.Put(0, []byte{1}, nil)
	if cap(s.file.bytes) != 0 {
		t.Errorf("room for %d bytes, with no piece there", cap(s.file.bytes))
	}
	s.Mark(5, []byte{1})
	if len(s.file.bytes) != api.MaxFile {
		t.Errorf("room for %d bytes", len(s.file.bytes))
	}
}

// The roots that are kept have far fewer bytes than the file, however small its pieces are; and they spare the next Proof the file.
func TestKeptRoots(t *testing.T) {
	const size = 1 << 16
	for _, piece := range []int{1, 3, 64, 1000, 1024, 5000, 65536} {
		data := make([]byte, size)
		m, _ := Describe("x", data, piece)
		s, e := Full(m, data)
		if e != api.OK {
			t.Fatalf("Full: %d", e)
		}
		n := Count(m)
		first, _ := s.Proof(n / 2)
		for i := 0; i < n; i += 1 + n/300 {
			s.Proof(i)
		}
		if kept := len(s.file.roots); kept == 0 || kept*8*len(api.Sum{}) > size {
			t.Errorf("of pieces of %d bytes %d roots are kept", piece, kept)
		}
		// Were the file gone through anew, this would be seen.
		far := s.file.cut(0)
		far[0] ^= 1
		if again, _ := s.Proof(n / 2); len(again) > 0 && again[len(again)-1] != first[len(first)-1] {
			t.Errorf("of pieces of %d bytes a Proof goes through the whole file", piece)
		}
	}
}
