package pieces_test

import (
	"math"
	"strings"
	"testing"

	"braid/api"
	"braid/pieces"
)

// fits awaits what is wrong with a name, or nothing, of all calls that look at a manifest.
func fits(t *testing.T, name string, want api.Errno) {
	t.Helper()
	m := manifestOf(name, "abcdefg", 3)
	if e := pieces.Fit(m); e != want {
		t.Errorf("Fit of %.20q: %d, want %d", name, e, want)
	}
	got, e := pieces.Describe(name, []byte("abcdefg"), 3)
	if want != api.OK {
		m = api.Manifest{}
	}
	if e != want || got != m {
		t.Errorf("Describe of %.20q: %v, %d, want %d", name, got, e, want)
	}
}

// P22.2: names.
func TestNames(t *testing.T) {
	for _, name := range []string{
		"x", " ", "  ", "a b", "...", "....", ".x", "..x", "x.", "x..", "x.y", ". ", " .", ".. ", "..\xff", "\\", "~", "-", "0",
		"\x80", "\xff", "\xc3\xa4", "\xc3", "a\x80\xfeb", "\xed\xa0\x80", "\xe2\x81\x84",
		strings.Repeat("n", 254), strings.Repeat("n", 255), strings.Repeat("\xff", 255), strings.Repeat(".", 255),
	} {
		fits(t, name, api.OK)
	}
	for _, name := range []string{
		"", ".", "..", "/", "a/b", "/a", "a/", "./", "../", "./.", "//", "\x00", "\x1f", "\x7f", "a\nb", "\ta", "a\r", "x\x7f", "\x7fx",
		"\xff/", "\xc3\xa4\x01", strings.Repeat("n", 256), strings.Repeat("n", 257), strings.Repeat("n", 254) + "/", strings.Repeat("n", 100000),
		strings.Repeat(".", 256), strings.Repeat("n", 511), strings.Repeat("n", 512),
	} {
		fits(t, name, nameErr)
	}
}

// P22.2: each byte, alone and at each end of a name.
func TestEachByteOfAName(t *testing.T) {
	for c := range 256 {
		wrong := c < 32 || c == 127 || c == 47
		x := string([]byte{byte(c)})
		for _, name := range []string{x, "a" + x, x + "a", "a" + x + "a", "..." + x, strings.Repeat("a", 254) + x} {
			want := api.OK
			if wrong || name == "." {
				want = nameErr
			}
			fits(t, name, want)
		}
	}
}

// P22.2: how many bytes a piece and a file have.
func TestBounds(t *testing.T) {
	root := api.Sum{1, 2, 3}
	for _, x := range []struct {
		piece, size int
		want        api.Errno
	}{
		{1, 0, api.OK}, {1, 1, api.OK}, {65535, 9, api.OK}, {65536, 9, api.OK}, {65536, 0, api.OK},
		{1, 1<<24 - 1, api.OK}, {1, 1 << 24, api.OK}, {65536, 1 << 24, api.OK}, {7, 1 << 24, api.OK},
		{0, 0, cutErr}, {-1, 5, cutErr}, {65537, 5, cutErr}, {math.MinInt, 5, cutErr}, {math.MaxInt, 5, cutErr}, {1 << 32, 5, cutErr}, {1<<32 + 1, 5, cutErr},
		{1, -1, longErr}, {1, 1<<24 + 1, longErr}, {65536, math.MinInt, longErr}, {65536, math.MaxInt, longErr}, {3, 1 << 32, longErr}, {3, 1<<32 + 3, longErr},
		{0, -1, cutErr}, {65537, 1<<24 + 1, cutErr},
	} {
		m := api.Manifest{Name: "x", Size: x.size, Piece: x.piece, Root: root}
		if e := pieces.Fit(m); e != x.want {
			t.Errorf("Fit of Piece %d, Size %d: %d, want %d", x.piece, x.size, e, x.want)
		}
	}
}

// P22.2 to P22.4: of several errors the one that stands first, and nothing beside it.
func TestFaults(t *testing.T) {
	for _, x := range faults() {
		if e := pieces.Fit(x.m); e != x.e {
			t.Errorf("Fit of %s: %d, want %d", x.name, e, x.e)
		}
		if b, e := pieces.Encode(x.m); e != x.e || len(b) != 0 {
			t.Errorf("Encode of %s: %d bytes, %d, want %d", x.name, len(b), e, x.e)
		}
		if s, e := pieces.New(x.m); e != x.e || s != nil {
			t.Errorf("New of %s: %d, want %d", x.name, e, x.e)
		}
		for _, data := range []string{"", "a", "ab"} { // too few or too many bytes too, and another root
			if s, e := pieces.Full(x.m, []byte(data)); e != x.e || s != nil {
				t.Errorf("Full of %s: %d, want %d", x.name, e, x.e)
			}
		}
		if n := pieces.Count(x.m); n != 0 {
			t.Errorf("Count of %s: %d", x.name, n)
		}
		for _, i := range []int{math.MinInt, -1, 0, 1, math.MaxInt} {
			if n := pieces.Size(x.m, i); n != 0 {
				t.Errorf("Size of %s, piece %d: %d", x.name, i, n)
			}
		}
	}
}

// P22.2: of several errors of Describe the one that stands first.
func TestDescribeFaults(t *testing.T) {
	for _, x := range []struct {
		name  string
		size  int
		piece int
		want  api.Errno
	}{
		{"", 1<<24 + 1, 0, nameErr}, {"a/b", 5, 0, nameErr}, {"..", 1<<24 + 1, 1, nameErr}, {strings.Repeat("n", 256), 0, 1, nameErr},
		{"x", 1<<24 + 1, 0, cutErr}, {"x", 5, 65537, cutErr}, {"x", 0, math.MinInt, cutErr}, {"x", 0, math.MaxInt, cutErr}, {"x", 0, -1, cutErr},
		{"x", 1<<24 + 1, 65536, longErr}, {"x", 1<<24 + 1, 1, longErr},
	} {
		if m, e := pieces.Describe(x.name, make([]byte, x.size), x.piece); e != x.want || m != (api.Manifest{}) {
			t.Errorf("Describe(%.10q, %d bytes, %d): %v, %d, want %d", x.name, x.size, x.piece, m, e, x.want)
		}
	}
}

// P22.2: the manifest of files of many lengths, cut in many ways; how many pieces there are, and how many bytes each has.
func TestDescribe(t *testing.T) {
	for size := range 40 {
		for piece := 1; piece < 45; piece++ {
			data := text(size)
			m, e := pieces.Describe("name", []byte(data), piece)
			if want := manifestOf("name", data, piece); e != api.OK || m != want {
				t.Errorf("Describe of %d bytes by %d: %v, %d, want %v", size, piece, m, e, want)
			}
			counted(t, m, cutUp(data, piece))
		}
	}
}

// counted holds Count and Size against the pieces that a file was cut into.
func counted(t *testing.T, m api.Manifest, parts []string) {
	t.Helper()
	if n := pieces.Count(m); n != len(parts) {
		t.Errorf("Count of %d bytes by %d: %d, want %d", m.Size, m.Piece, n, len(parts))
	}
	for i, p := range parts {
		if n := pieces.Size(m, i); n != len(p) {
			t.Errorf("Size of piece %d of %d bytes by %d: %d, want %d", i, m.Size, m.Piece, n, len(p))
		}
	}
	for _, i := range []int{math.MinInt, -1, -len(parts), len(parts), len(parts) + 1, math.MaxInt, math.MaxInt / m.Piece} {
		if i >= 0 && i < len(parts) {
			continue
		}
		if n := pieces.Size(m, i); n != 0 {
			t.Errorf("Size of piece %d of %d bytes by %d: %d", i, m.Size, m.Piece, n)
		}
	}
}

// P22.2: longer files, about whole numbers of pieces and of kept roots.
func TestDescribeLong(t *testing.T) {
	for _, piece := range []int{1, 7, 64, 100, 511, 512, 1000, 1023, 1024, 1025, 4096, 65536} {
		for _, size := range []int{1000, 1023, 1024, 1025, 2048, 3000, 4095, 4097, 10000, 65536, 65537, 131072, 200000} {
			if size/piece > 10000 {
				continue
			}
			data := text(size)
			m, e := pieces.Describe("x", []byte(data), piece)
			if e != api.OK || m != manifestOf("x", data, piece) {
				t.Errorf("Describe of %d bytes by %d: %d", size, piece, e)
			}
			counted(t, m, cutUp(data, piece))
		}
	}
}

// P22.2: the greatest file, and pieces of it.
func TestGreatest(t *testing.T) {
	data := strings.Repeat(text(1<<16-1)+"#", 1<<8)
	for _, piece := range []int{65536, 65535, 10000} {
		m, e := pieces.Describe("x", []byte(data), piece)
		if e != api.OK || m != manifestOf("x", data, piece) {
			t.Errorf("Describe of the greatest file by %d: %d", piece, e)
		}
		counted(t, m, cutUp(data, piece))
	}
	for _, x := range []struct{ piece, count, last int }{{1, 1 << 24, 1}, {2, 1 << 23, 2}, {3, 5592406, 1}, {65536, 256, 65536}, {65535, 257, 256}} {
		m := api.Manifest{Name: "x", Size: 1 << 24, Piece: x.piece}
		if n := pieces.Count(m); n != x.count || pieces.Size(m, n-1) != x.last || pieces.Size(m, n) != 0 || pieces.Size(m, 0) != x.piece || pieces.Size(m, n-2) != x.piece {
			t.Errorf("of the greatest file by %d: Count %d, the last one %d", x.piece, n, pieces.Size(m, n-1))
		}
	}
}

// P22.2: a file without bytes has no pieces.
func TestDescribeNothing(t *testing.T) {
	for _, piece := range []int{1, 5, 65536} {
		m, e := pieces.Describe("empty", nil, piece)
		if e != api.OK || m != (api.Manifest{Name: "empty", Piece: piece, Root: pieces.Root(nil)}) {
			t.Errorf("Describe of nothing: %v, %d", m, e)
		}
		counted(t, m, nil)
		if pieces.Size(m, 0) != 0 {
			t.Error("a file without bytes has a piece")
		}
	}
}
