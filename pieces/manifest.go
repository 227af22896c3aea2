package pieces

import (
	"bytes"

	"braid/api"
	"braid/sums"
)

// How a manifest is laid down: the first bytes, the name behind its length, two numbers, the root and the short sum.
const (
	magic      = "BRP1"
	lengthAt   = len(magic)
	nameAt     = lengthAt + 1
	numberSize = 4
	rootSize   = len(api.Sum{})
	// bare is how many bytes it has beside its name.
	bare = nameAt + numberSize + numberSize + rootSize + numberSize
)

// Fit tells what is wrong with a manifest.
func Fit(m api.Manifest) api.Errno {
	switch {
	case !named(m.Name):
		return api.ErrPieceName
	case m.Piece < 1 || m.Piece > api.MaxPiece:
		return api.ErrPieceCut
	case m.Size < 0 || m.Size > api.MaxFile:
		return api.ErrPieceLong
	}
	return api.OK
}

// named tells whether a file may have this name.
func named(name string) bool {
	if len(name) == 0 || len(name) > api.MaxName || name == "." || name == ".." {
		return false
	}
	for i := range len(name) {
		if c := name[i]; c < 32 || c == 127 || c == '/' {
			return false
		}
	}
	return true
}

// Describe is the manifest of a file.
func Describe(name string, data []byte, piece int) (api.Manifest, api.Errno) {
	m := api.Manifest{Name: name, Size: len(data), Piece: piece}
	if e := Fit(m); e != api.OK {
		return api.Manifest{}, e
	}
	b := bodyOf(data, piece)
	m.Root = b.over(0, Count(m))
	return m, api.OK
}

// Count is how many pieces a file has.
func Count(m api.Manifest) int {
	if Fit(m) != api.OK {
		return 0
	}
	return (m.Size + m.Piece - 1) / m.Piece
}

// Size is how many bytes a piece has.
func Size(m api.Manifest, i int) int {
	if i < 0 || i >= Count(m) {
		return 0
	}
	return min(m.Piece, m.Size-i*m.Piece)
}

// Encode is a manifest's bytes.
func Encode(m api.Manifest) ([]byte, api.Errno) {
	if e := Fit(m); e != api.OK {
		return nil, e
	}
	b := make([]byte, 0, bare+len(m.Name))
	b = append(b, magic...)
	b = append(b, byte(len(m.Name)))
	b = append(b, m.Name...)
	b = numbered(b, uint32(m.Size))
	b = numbered(b, uint32(m.Piece))
	b = append(b, m.Root[:]...)
	return numbered(b, sums.Crc(b)), api.OK
}

// numbered is b with a number behind it, its highest byte first.
func numbered(b []byte, n uint32) []byte {
	return append(b, byte(n>>24), byte(n>>16), byte(n>>8), byte(n))
}

// Decode reads a manifest.
func Decode(b []byte) (api.Manifest, api.Errno) {
	if len(b) < bare || len(b) != bare+int(b[lengthAt]) {
		return api.Manifest{}, api.ErrPieceForm
	}
	m := fields(b)
	// Each manifest has one form: what is not right about b shows where that is otherwise.
	form, e := Encode(m)
	if e != api.OK || !bytes.Equal(form, b) {
		return api.Manifest{}, api.ErrPieceForm
	}
	return m, api.OK
}

// fields is what stands at a manifest's places in bytes that are as many as it has.
func fields(b []byte) api.Manifest {
	sizeAt := nameAt + int(b[lengthAt])
	pieceAt := sizeAt + numberSize
	rootAt := pieceAt + numberSize
	m := api.Manifest{
		Name:  string(b[nameAt:sizeAt]),
		Size:  number(b[sizeAt:pieceAt]),
		Piece: number(b[pieceAt:rootAt]),
	}
	copy(m.Root[:], b[rootAt:])
	return m
}

func number(b []byte) int {
	n := 0
	for _, x := range b {
		n = n<<8 | int(x)
	}
	return n
}
