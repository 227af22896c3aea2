package sums_test

import (
	"bytes"
	"encoding/hex"
	"strings"
	"testing"

	"braid/api"
	"braid/sums"
)

func text(s string) []byte { return []byte(s) }

func want[T comparable](t *testing.T, what string, got, wanted T) {
	t.Helper()
	if got != wanted {
		t.Errorf("%s: %v, want %v", what, got, wanted)
	}
}

// wantSum takes the digest as hexadecimal digits, with spaces where one likes.
func wantSum(t *testing.T, what string, got api.Sum, digits string) {
	t.Helper()
	want(t, what, hex.EncodeToString(got[:]), strings.ReplaceAll(digits, " ", ""))
}

// dice gives the same row of numbers in every run.
type dice uint64

func (d *dice) below(n int) int {
	*d = *d*6364136223846793005 + 1442695040888963407
	return int(uint64(*d) >> 33 % uint64(n))
}

func (d *dice) text(n int) []byte {
	b := make([]byte, n)
	for i := range b {
		b[i] = byte(d.below(256))
	}
	return b
}

func rolled(seed, n int) []byte {
	d := dice(seed)
	return d.text(n)
}

// cut cuts b into pieces, some of them empty.
func (d *dice) cut(b []byte) [][]byte {
	var parts [][]byte
	for len(b) > 0 {
		n := min(d.below(1+d.below(100)), len(b))
		parts = append(parts, b[:n])
		b = b[n:]
	}
	return append(parts, nil)
}

// P2.1, example 1
func TestCrcOfKnownTexts(t *testing.T) {
	for _, c := range []struct {
		parts []string
		sum   uint32
	}{
		{nil, 0},
		{[]string{""}, 0},
		{[]string{"", "", ""}, 0},
		{[]string{"a"}, 0xe8b7be43},
		{[]string{"\x00"}, 0xd202ef8d},
		{[]string{"\xff"}, 0xff000000},
		{[]string{"\xff\xff\xff\xff"}, 0xffffffff},
		{[]string{"123456789"}, 0xcbf43926},
		{[]string{"1234", "", "56789"}, 0xcbf43926},
		{[]string{"", "1", "2", "3", "4", "5", "6", "7", "8", "9", ""}, 0xcbf43926},
		{[]string{"The quick brown fox jumps over the lazy dog"}, 0x414fa339},
		{[]string{strings.Repeat("\x00", 32)}, 0x190a55ad},
	} {
		var parts [][]byte
		for _, p := range c.parts {
			parts = append(parts, text(p))
		}
		if got := sums.Crc(parts...); got != c.sum {
			t.Errorf("Crc(%q): %08x, want %08x", c.parts, got, c.sum)
		}
	}
	want(t, "Crc(nil)", sums.Crc(nil), 0)
}

// P2.2, example 1
func TestMoreGoesOn(t *testing.T) {
	whole := text("123456789")
	for i := range len(whole) + 1 {
		want(t, "More(Crc(a), b)", sums.More(sums.Crc(whole[:i]), whole[i:]), 0xcbf43926)
	}
	for _, c := range []uint32{0, 1, 77, 0x80000000, 0xcbf43926, 0xffffffff} {
		want(t, "More(c, nil)", sums.More(c, nil), c)
		want(t, "More(c, nothing)", sums.More(c, []byte{}), c)
		want(t, "More(c, b)", sums.More(c, whole), bitwise(^c, whole))
	}
	want(t, "More(0, b)", sums.More(0, whole), 0xcbf43926)
	want(t, "a register of zeros stays so", sums.More(0xffffffff, make([]byte, 9)), 0xffffffff)
}

// P2.4, examples 2 and 3
func TestOfKnownTexts(t *testing.T) {
	const nothing = "e3b0c442 98fc1c14 9afbf4c8 996fb924 27ae41e4 649b934c a495991b 7852b855"
	const abc = "ba7816bf 8f01cfea 414140de 5dae2223 b00361a3 96177a9c b410ff61 f20015ad"
	wantSum(t, "no part", sums.Of(), nothing)
	wantSum(t, "nil", sums.Of(nil), nothing)
	wantSum(t, "empty parts", sums.Of(nil, []byte{}, nil), nothing)
	wantSum(t, "abc", sums.Of(text("abc")), abc)
	wantSum(t, "a, bc", sums.Of(text("a"), text("bc")), abc)
	wantSum(t, "abc with empty parts", sums.Of(nil, text("ab"), nil, text("c"), nil), abc)
	wantSum(t, "two blocks", sums.Of(text("abcdbcdecdefdefgefghfghighijhijkijkljklmklmnlmnomnopnopq")),
		"248d6a61 d20638b8 e5c02693 0c3e6039 a33ce459 64ff2167 f6ecedd4 19db06c1")
	wantSum(t, "a million a", sums.Of(bytes.Repeat(text("a"), 1000000)),
		"cdc76e5c 9914fb92 81a1c7e2 84d73e67 f1809a48 a497200e 046d39cc c7112cd0")
}

// P2.5, example 6
func TestHashGoesOnBehindSumAndFork(t *testing.T) {
	h := sums.New()
	want(t, "Size of nothing", h.Size(), 0)
	want(t, "Sum of nothing", h.Sum(), sums.Of())
	h.Write(text("ab"))
	f := h.Fork()
	f.Write(text("x"))
	want(t, "Size beside a Fork", h.Size(), 2)
	want(t, "Sum on the way", h.Sum(), sums.Of(text("ab")))
	want(t, "Sum again", h.Sum(), sums.Of(text("ab")))
	h.Write(text("c"))
	want(t, "Sum", h.Sum(), sums.Of(text("abc")))
	want(t, "Size", h.Size(), 3)
	want(t, "the Fork's Sum", f.Sum(), sums.Of(text("abx")))
	want(t, "the Fork's Size", f.Size(), 3)
	g := f.Fork()
	f.Write(nil)
	f.Write([]byte{})
	want(t, "Sum behind empty pieces", f.Sum(), sums.Of(text("abx")))
	want(t, "Size behind empty pieces", f.Size(), 3)
	f.Write(text("y"))
	want(t, "a Fork of a Fork", g.Sum(), sums.Of(text("abx")))
	g.Write(bytes.Repeat(text("z"), 200))
	want(t, "what it was forked of", f.Sum(), sums.Of(text("abxy")))
	want(t, "another New", sums.New().Sum(), sums.Of())
}

// P2.5, example 8
func TestHashThatNobodyMade(t *testing.T) {
	for name, h := range map[string]*sums.Hash{"nil": nil, "plain": {}, "new": new(sums.Hash)} {
		for range 2 {
			h.Write(text("abc"))
			h.Write(make([]byte, 200))
			want(t, name+": Size", h.Size(), 0)
			want(t, name+": Sum", h.Sum(), api.Sum{})
			want(t, name+": Fork", h.Fork(), nil)
		}
	}
}

// P2.7, example 5
func TestMacOfKnownTexts(t *testing.T) {
	const fox = "f7bc83f4 30538424 b13298e6 aa6fb143 ef4d59a1 49461759 97479dbc 2d1a3cd8"
	const nothing = "b613679a 0814d9ec 772f95d7 78c35fc5 ff1697c4 93715653 c6c71214 4292c5ad"
	wantSum(t, "the fox", sums.Mac(text("key"), text("The quick brown fox jumps over the lazy dog")), fox)
	wantSum(t, "the fox in parts", sums.Mac(text("key"), nil, text("The quick brown fox"), text(" jumps over the lazy dog")), fox)
	wantSum(t, "no key and no part", sums.Mac(nil), nothing)
	wantSum(t, "empty key and part", sums.Mac([]byte{}, []byte{}), nothing)
	wantSum(t, "a key of 20", sums.Mac(bytes.Repeat([]byte{0x0b}, 20), text("Hi There")),
		"b0344c61 d8db3853 5ca8afce af0bf12b 881dc200 c9833da7 26e9376c 2e32cff7")
	wantSum(t, "a key of 131", sums.Mac(bytes.Repeat([]byte{0xaa}, 131), text("Test Using Larger Than Block-Size Key - Hash Key First")),
		"60e43159 1ee0b67f 0d8a26aa cbf5b77f 8e0bc621 3728c514 0546040f 0ee37f54")
}

// P2.7: which keys are one key
func TestMacKeysThatAreOne(t *testing.T) {
	msg := text("message")
	short := text("key")
	for n := 3; n <= 64; n++ {
		filled := append(text("key"), make([]byte, n-3)...)
		want(t, "with bytes 0 behind it", sums.Mac(filled, msg), sums.Mac(short, msg))
	}
	tooLong := append(text("key"), make([]byte, 62)...)
	if sums.Mac(tooLong, msg) == sums.Mac(short, msg) {
		t.Error("a key of 65 bytes is not filled up: its sum takes its place")
	}
	s := sums.Of(tooLong)
	want(t, "a key of 65 bytes and its sum", sums.Mac(tooLong, msg), sums.Mac(s[:], msg))
	full := bytes.Repeat([]byte{9}, 64)
	s = sums.Of(full)
	if sums.Mac(full, msg) == sums.Mac(s[:], msg) {
		t.Error("a key of 64 bytes is taken as it is")
	}
	if sums.Mac(text("\x00key"), msg) == sums.Mac(short, msg) {
		t.Error("bytes 0 ahead of a key make another key")
	}
}

// P2.8, example 7
func TestNumbersOfAKey(t *testing.T) {
	want(t, "Token(0)", sums.Token(0), 0xaf5570f5)
	want(t, "First(0)", sums.First(0), 0xe5b2328de0e83dfc)
	for _, key := range []uint64{0, 1, 0x0102030405060708, 1 << 63, 1<<64 - 1} {
		var b [8]byte
		for i := range b {
			b[7-i] = byte(key >> (8 * i))
		}
		s := sums.Of(b[:])
		token, first := uint32(0), uint64(0)
		for _, x := range s[:4] {
			token = token<<8 | uint32(x)
		}
		for _, x := range s[24:] {
			first = first<<8 | uint64(x)
		}
		want(t, "Token", sums.Token(key), token)
		want(t, "First", sums.First(key), first)
	}
}
