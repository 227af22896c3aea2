package journal_test

import (
	"bytes"
	"math"
	"math/big"
	"strings"
	"testing"

	"braid/api"
	"braid/journal"
)

// D1: a disk has 1 to MaxDisk bytes, all 0 and all safe.
func TestNewDisk(t *testing.T) {
	for _, size := range []int{math.MinInt, math.MinInt + 1, -1 << 24, -1, 0, 1<<24 + 1, 1 << 32, 1<<32 + 1, math.MaxInt - 1, math.MaxInt} {
		if d, e := journal.NewDisk(size); d != nil || e != sizeErr {
			t.Errorf("NewDisk(%d): %v, %d", size, d != nil, e)
		}
	}
	for _, size := range []int{1, 2, 17, 1000, 1<<24 - 1, 1 << 24} {
		want := strings.Repeat("\x00", size)
		c := zeros(t, size)
		if c.look() != (look{size, 0, want, want}) {
			t.Errorf("NewDisk(%d) is no disk of zeros", size)
		}
	}
}

// D1: LoadDisk is likewise by the image's length, with its bytes.
func TestLoadDisk(t *testing.T) {
	d := dice(1)
	for _, image := range [][]byte{nil, {}, make([]byte, 0, 10), make([]byte, 1<<24+1), d.bytes(1<<24 + 1)} {
		if d, e := journal.LoadDisk(image); d != nil || e != sizeErr {
			t.Errorf("LoadDisk of %d bytes: %v, %d", len(image), d != nil, e)
		}
	}
	for _, size := range []int{1, 2, 17, 1000, 1 << 24} {
		image := append(d.bytes(size), 1, 2, 3)[:size] // room behind it does not count
		x, e := journal.LoadDisk(image)
		if e != api.OK {
			t.Fatalf("LoadDisk of %d bytes: %d", size, e)
		}
		if (disk{t, x}).look() != (look{size, 0, string(image), string(image)}) {
			t.Errorf("LoadDisk of %d bytes is no disk with these", size)
		}
	}
}

// lies tells whether n bytes from at on lie on a disk, in numbers that do not wrap round.
func lies(at, n, size int) bool {
	end := new(big.Int).Add(big.NewInt(int64(at)), big.NewInt(int64(n)))
	return at >= 0 && n >= 0 && end.Cmp(big.NewInt(int64(size))) <= 0
}

// places are about both ends of a disk of so many bytes, and where sums wrap round.
func places(size int) []int {
	return []int{
		math.MinInt, math.MinInt + 1, math.MinInt + size, -1 << 40, -size - 1, -size, -2, -1, 0, 1, 2, size / 2, size - 2, size - 1, size, size + 1, size + 2,
		2 * size, 1 << 32, 1<<32 + 1, 1 << 40, math.MaxInt - size - 1, math.MaxInt - size, math.MaxInt - size + 1, math.MaxInt - 2, math.MaxInt - 1, math.MaxInt,
	}
}

// D2: Read takes what lies on the disk whole, and nothing else.
func TestReadPlaces(t *testing.T) {
	for _, size := range []int{1, 2, 3, 10} {
		text := "abcdefghij"[:size]
		c := loaded(t, []byte(text))
		for _, at := range places(size) {
			for _, n := range places(size) {
				if lies(at, n, size) {
					c.read(at, n, text[at:at+n], api.OK)
				} else {
					c.read(at, n, "", placeErr)
				}
			}
		}
	}
}

// D2: Write takes what lies on the disk whole, and nothing else; one of no bytes is no write.
func TestWritePlaces(t *testing.T) {
	for _, size := range []int{1, 2, 3, 10} {
		for _, at := range places(size) {
			for n := range 2*size + 2 {
				text := "abcdefghij"[:size]
				c := loaded(t, []byte(text))
				put := strings.Repeat("X", n)
				if !lies(at, n, size) {
					c.write(at, put, placeErr)
					c.is(0, text, text)
					continue
				}
				c.write(at, put, api.OK)
				c.is(min(n, 1), text[:at]+put+text[at+n:], text)
			}
		}
	}
}

// D2: both ends of the greatest disk.
func TestGreatestDisk(t *testing.T) {
	const size = 1 << 24
	d := zeros(t, size).d
	for _, x := range []struct {
		at   int
		b    []byte
		want api.Errno
	}{
		{size - 1, []byte{1}, api.OK}, {size - 1, []byte{2, 3}, placeErr}, {size, nil, api.OK}, {size, []byte{4}, placeErr}, {size + 1, nil, placeErr},
		{0, make([]byte, size+1), placeErr}, {1, make([]byte, size), placeErr}, {0, bytes.Repeat([]byte{5}, size), api.OK},
	} {
		if e := d.Write(x.at, x.b); e != x.want {
			t.Errorf("Write(%d, %d bytes): %d, want %d", x.at, len(x.b), e, x.want)
		}
	}
	if b, e := d.Read(0, size); e != api.OK || !bytes.Equal(b, bytes.Repeat([]byte{5}, size)) || d.Pending() != 2 {
		t.Errorf("Read of all: %d bytes, %d; %d pending", len(b), e, d.Pending())
	}
	if b := d.Image(); !bytes.Equal(b, make([]byte, size)) {
		t.Error("something is safe")
	}
	d.Crash(1, 1)
	want := make([]byte, size)
	want[0], want[size-1] = 5, 1
	if b := d.Image(); !bytes.Equal(b, want) {
		t.Error("not safe as the crash said")
	}
}

// D2: Read tells what was written last, safe or not; Image what is safe; Pending how many writes are not.
func TestCache(t *testing.T) {
	c := loaded(t, []byte("abcdefgh"))
	c.write(2, "123", api.OK)
	c.is(1, "ab123fgh", "abcdefgh")
	c.write(4, "45", api.OK)
	c.is(2, "ab1245gh", "abcdefgh")
	c.write(3, "", api.OK)
	c.write(8, "", api.OK)
	for _, none := range [][]byte{nil, {}, []byte("room")[:0]} {
		if e := c.d.Write(3, none); e != api.OK {
			t.Errorf("Write of no bytes: %d", e)
		}
	}
	c.is(2, "ab1245gh", "abcdefgh")
	c.write(1, "6", api.OK)
	c.write(1, "7", api.OK)
	c.is(4, "a71245gh", "abcdefgh")
	c.read(1, 4, "7124", api.OK)
	c.write(0, "a", api.OK)
	c.is(5, "a71245gh", "abcdefgh") // the same bytes again are a write too
	c.d.Sync()
	c.is(0, "a71245gh", "a71245gh")
	c.d.Sync()
	c.is(0, "a71245gh", "a71245gh")
	c.write(7, "8", api.OK)
	c.is(1, "a71245g8", "a71245gh")
	c.write(0, "ABCDEFGH", api.OK)
	c.is(2, "ABCDEFGH", "a71245gh")
	c.d.Sync()
	c.is(0, "ABCDEFGH", "ABCDEFGH")
}

// D3: each keep and each torn, of writes that lie over one another.
func TestCrash(t *testing.T) {
	const first = "abcdefgh"
	writes := []struct {
		at   int
		text string
	}{{1, "123"}, {2, "4567"}, {0, "8"}, {2, "9X"}}
	for keep := -2; keep <= 6; keep++ {
		for torn := -2; torn <= 6; torn++ {
			c := loaded(t, []byte(first))
			want := []byte(first)
			for i, w := range writes {
				c.write(w.at, w.text, api.OK)
				if i < keep {
					copy(want[w.at:], w.text)
				} else if i == max(keep, 0) {
					copy(want[w.at:], w.text[:max(0, min(torn, len(w.text)))])
				}
			}
			c.d.Crash(keep, torn)
			c.is(0, string(want), string(want))
			c.d.Sync()
			c.is(0, string(want), string(want))
		}
	}
}

// D3: numbers far outside count as the nearest that may be.
func TestCrashFar(t *testing.T) {
	for _, x := range []struct {
		keep, torn int
		want       string
	}{
		{math.MinInt, math.MinInt, "abcd"}, {math.MinInt, math.MaxInt, "12cd"}, {-1, 1, "1bcd"}, {0, 2, "12cd"}, {0, math.MaxInt, "12cd"},
		{1, math.MinInt, "12cd"}, {1, 0, "12cd"}, {1, 1, "13cd"}, {1, math.MaxInt, "134d"},
		{2, 0, "134d"}, {2, math.MaxInt, "134d"}, {math.MaxInt, math.MinInt, "134d"}, {math.MaxInt, math.MaxInt, "134d"}, {1 << 32, -1 << 32, "134d"},
	} {
		c := loaded(t, []byte("abcd"))
		c.write(0, "12", api.OK)
		c.write(1, "34", api.OK)
		c.d.Crash(x.keep, x.torn)
		c.is(0, x.want, x.want)
	}
}

// D3: with none pending a crash changes no byte, and what was made safe stays.
func TestCrashNone(t *testing.T) {
	for _, n := range []int{math.MinInt, -1, 0, 1, 5, math.MaxInt} {
		c := loaded(t, []byte("abcd"))
		c.d.Crash(n, n)
		c.is(0, "abcd", "abcd")
		c.write(1, "XY", api.OK)
		c.d.Sync()
		c.d.Crash(n, n)
		c.is(0, "aXYd", "aXYd")
		c.write(3, "", api.OK)
		c.d.Crash(0, n)
		c.is(0, "aXYd", "aXYd")
	}
}

// D3: what was lost is lost for good, and one goes on behind a crash.
func TestBehindCrash(t *testing.T) {
	c := loaded(t, []byte("abcdef"))
	c.write(0, "12", api.OK)
	c.write(4, "34", api.OK)
	c.d.Crash(0, 1)
	c.is(0, "1bcdef", "1bcdef")
	c.write(1, "Z", api.OK)
	c.is(1, "1Zcdef", "1bcdef")
	c.d.Crash(0, 0)
	c.is(0, "1bcdef", "1bcdef")
	c.write(2, "UV", api.OK)
	c.d.Crash(1, 0)
	c.is(0, "1bUVef", "1bUVef")
	c.d.Crash(5, 5)
	c.is(0, "1bUVef", "1bUVef")
}
