package pieces_test

import (
	"bytes"
	"crypto/sha256"
	"encoding/binary"
	"fmt"
	"hash/crc32"
	"math"
	"slices"
	"strings"
	"testing"

	"braid/api"
	"braid/pieces"
)

const (
	nameErr    = api.ErrPieceName
	cutErr     = api.ErrPieceCut
	longErr    = api.ErrPieceLong
	formErr    = api.ErrPieceForm
	numberErr  = api.ErrPieceNumber
	lengthErr  = api.ErrPieceLength
	proofErr   = api.ErrPieceProof
	rootErr    = api.ErrPieceRoot
	missingErr = api.ErrPieceMissing
)

// dice gives the same row of numbers in every run.
type dice uint64

func (d *dice) below(n int) int {
	*d = *d*6364136223846793005 + 1442695040888963407
	return int(uint64(*d) >> 33 % uint64(n))
}

// one is one of these.
func (d *dice) one(of ...int) int { return of[d.below(len(of))] }

func (d *dice) bytes(n int) []byte {
	b := make([]byte, n)
	for i := range b {
		b[i] = byte(d.below(256))
	}
	return b
}

func (d *dice) sum() api.Sum { return api.Sum(d.bytes(32)) }

func (d *dice) sums(n int) []api.Sum {
	l := make([]api.Sum, n)
	for i := range l {
		l[i] = d.sum()
	}
	return l
}

// order is the numbers below n in any order.
func (d *dice) order(n int) []int {
	l := make([]int, n)
	for i := range l {
		k := d.below(i + 1)
		l[i], l[k] = l[k], i
	}
	return l
}

// leafOf and nodeOf are the digests by Go's library.
func leafOf(data string) api.Sum { return sha256.Sum256([]byte("\x00" + data)) }

func nodeOf(a, b api.Sum) api.Sum {
	return sha256.Sum256(slices.Concat([]byte{1}, a[:], b[:]))
}

// below2 is the greatest power of two below n.
func below2(n int) int {
	k := 1
	for k < n-k {
		k *= 2
	}
	return k
}

// rootByBook and pathByBook are the chapter's words.
func rootByBook(l []api.Sum) api.Sum {
	switch len(l) {
	case 0:
		return sha256.Sum256(nil)
	case 1:
		return l[0]
	}
	k := below2(len(l))
	return nodeOf(rootByBook(l[:k]), rootByBook(l[k:]))
}

func pathByBook(l []api.Sum, i int) []api.Sum {
	if len(l) == 1 {
		return nil
	}
	k := below2(len(l))
	if i < k {
		return append(pathByBook(l[:k], i), rootByBook(l[k:]))
	}
	return append(pathByBook(l[k:], i-k), rootByBook(l[:k]))
}

// cutUp is a file's pieces.
func cutUp(data string, piece int) []string {
	var l []string
	for len(data) > piece {
		l = append(l, data[:piece])
		data = data[piece:]
	}
	if len(data) > 0 {
		l = append(l, data)
	}
	return l
}

// leavesOf is the digests of pieces.
func leavesOf(parts []string) []api.Sum {
	var l []api.Sum
	for _, p := range parts {
		l = append(l, leafOf(p))
	}
	return l
}

// manifestOf is a file's manifest by the chapter's words.
func manifestOf(name, data string, piece int) api.Manifest {
	return api.Manifest{Name: name, Size: len(data), Piece: piece, Root: rootByBook(leavesOf(cutUp(data, piece)))}
}

// laid is a manifest's bytes by the chapter's words, fit or not, its sum by Go's library.
func laid(m api.Manifest) []byte {
	b := append([]byte("BRP1"), byte(len(m.Name)))
	b = append(b, m.Name...)
	b = binary.BigEndian.AppendUint32(b, uint32(m.Size))
	b = binary.BigEndian.AppendUint32(b, uint32(m.Piece))
	return summed(append(b, m.Root[:]...))
}

// summed is bytes with their short sum behind them.
func summed(b []byte) []byte {
	return binary.BigEndian.AppendUint32(slices.Clone(b), crc32.ChecksumIEEE(b))
}

// spans takes the bounds of ranges two by two.
func spans(bounds ...uint64) []api.Range {
	var l []api.Range
	for i := 0; i+1 < len(bounds); i += 2 {
		l = append(l, api.Range{Lo: bounds[i], Hi: bounds[i+1]})
	}
	return l
}

// fault is one argument that is wrong.
type fault struct {
	name string
	m    api.Manifest
	e    api.Errno
}

// faults is manifests that are not fit, one or more faults each, and the error that stands first.
func faults() []fault {
	long := strings.Repeat("n", 256)
	var l []fault
	for _, name := range []string{"x", "", ".", "..", "/", "a/b", "a\x1fb", "a\x7fb", "\x00", long} {
		for _, piece := range []int{1, 0, -1, math.MinInt, 65537, math.MaxInt} {
			for _, size := range []int{0, -1, math.MinInt, 1<<24 + 1, math.MaxInt} {
				m := api.Manifest{Name: name, Size: size, Piece: piece}
				e := api.OK
				switch {
				case name != "x":
					e = nameErr
				case piece != 1:
					e = cutErr
				case size != 0:
					e = longErr
				}
				if e != api.OK {
					l = append(l, fault{fmt.Sprintf("%.10q, Piece %d, Size %d", name, piece, size), m, e})
				}
			}
		}
	}
	return l
}

// store is one whose answers are held against what is awaited. A call that answers an error must leave it as it was.
type store struct {
	t *testing.T
	s *pieces.Store
}

func fresh(t *testing.T, m api.Manifest) store {
	t.Helper()
	s, e := pieces.New(m)
	if e != api.OK || s == nil {
		t.Fatalf("New(%v): %d", m, e)
	}
	return store{t, s}
}

func full(t *testing.T, m api.Manifest, data string) store {
	t.Helper()
	s, e := pieces.Full(m, []byte(data))
	if e != api.OK || s == nil {
		t.Fatalf("Full(%v, %d bytes): %d", m, len(data), e)
	}
	return store{t, s}
}

// look is all that can be asked of a store, told.
func (c store) look() string {
	var b strings.Builder
	m := c.s.Manifest()
	data, e := c.s.Data()
	fmt.Fprintf(&b, "%q %d %d %x have %d done %v data %x %d\n", m.Name, m.Size, m.Piece, m.Root, c.s.Have(), c.s.Done(), data, e)
	n := pieces.Count(m)
	for _, most := range []int{math.MinInt, 0, 1, 2, n, math.MaxInt} {
		fmt.Fprintf(&b, "missing %d: %v\n", most, c.s.Missing(most))
	}
	for i := -1; i <= n; i++ {
		p, e := c.s.Piece(i)
		path, f := c.s.Proof(i)
		fmt.Fprintf(&b, "%d: %x %d, %x %d\n", i, p, e, path, f)
	}
	return b.String()
}

// told awaits an answer of Put or Mark, and that nothing has changed unless it is true.
func (c store) told(what string, call func() (bool, api.Errno), was bool, want api.Errno) {
	c.t.Helper()
	before := c.look()
	if ok, e := call(); ok != was || e != want {
		c.t.Errorf("%s: %v, %d, want %v, %d", what, ok, e, was, want)
	}
	if changed := c.look() != before; changed != was {
		c.t.Errorf("%s: what can be asked has changed: %v", what, changed)
	}
}

func (c store) put(i int, data string, path []api.Sum, was bool, want api.Errno) {
	c.t.Helper()
	c.told(fmt.Sprintf("Put(%d, %.20q, %d digests)", i, data, len(path)), func() (bool, api.Errno) { return c.s.Put(i, []byte(data), path) }, was, want)
}

func (c store) mark(i int, data string, was bool, want api.Errno) {
	c.t.Helper()
	c.told(fmt.Sprintf("Mark(%d, %.20q)", i, data), func() (bool, api.Errno) { return c.s.Mark(i, []byte(data)) }, was, want)
}

func (c store) piece(i int, text string, want api.Errno) {
	c.t.Helper()
	if b, e := c.s.Piece(i); string(b) != text || e != want {
		c.t.Errorf("Piece(%d): %.20q, %d, want %.20q, %d", i, b, e, text, want)
	}
}

func (c store) proof(i int, path []api.Sum, want api.Errno) {
	c.t.Helper()
	if l, e := c.s.Proof(i); !slices.Equal(l, path) || e != want {
		c.t.Errorf("Proof(%d): %x, %d, want %x, %d", i, l, e, path, want)
	}
}

func (c store) missing(most int, bounds ...uint64) {
	c.t.Helper()
	if l := c.s.Missing(most); !slices.Equal(l, spans(bounds...)) {
		c.t.Errorf("Missing(%d): %v, want %v", most, l, spans(bounds...))
	}
}

// stands awaits how many are there, whether that is all, and what Data says.
func (c store) stands(have int, done bool, text string, want api.Errno) {
	c.t.Helper()
	if c.s.Have() != have || c.s.Done() != done {
		c.t.Errorf("Have %d, Done %v, want %d, %v", c.s.Have(), c.s.Done(), have, done)
	}
	if b, e := c.s.Data(); string(b) != text || e != want {
		c.t.Errorf("Data: %d bytes, %d, want %d bytes, %d", len(b), e, len(text), want)
	}
}

// spare is a list with room behind it that is full of x.
func spare[T any](l []T, x T) []T {
	return append(slices.Clone(l), slices.Repeat([]T{x}, 9)...)[:len(l)]
}

func overwrite[T any](l []T, x T) {
	l = l[:cap(l)]
	for i := range l {
		l[i] = x
	}
}

// hand hands a list in, awaits that it and its spare room stay as they are, and spoils them behind the call.
func hand[T comparable](t *testing.T, l []T, x, y T, call func(l []T)) {
	t.Helper()
	p := spare(l, x)
	kept := slices.Clone(p[:cap(p)])
	call(p)
	if !slices.Equal(p[:cap(p)], kept) {
		t.Errorf("a list of %d was changed", len(l))
	}
	overwrite(p, y)
}

func handBytes(t *testing.T, text string, call func(p []byte)) {
	t.Helper()
	hand(t, []byte(text), 0xee, 0x55, call)
}

func handSums(t *testing.T, l []api.Sum, call func(l []api.Sum)) {
	t.Helper()
	hand(t, l, api.Sum{0xee}, api.Sum{0x55}, call)
}

// text is a file of so many bytes, none of its pieces like another one.
func text(n int) string {
	var b bytes.Buffer
	for i := 0; b.Len() < n; i++ {
		fmt.Fprintf(&b, "%x.", i*2654435761%4294967296)
	}
	return b.String()[:n]
}
