package sums_test

import (
	"bytes"
	"crypto/hmac"
	"crypto/sha256"
	"math/big"
	"slices"
	"sync"
	"testing"

	"braid/api"
	"braid/sums"
)

// bitwise is the short sum as the document reckons it, with a register that begins as r.
func bitwise(r uint32, b []byte) uint32 {
	for _, x := range b {
		for i := range 8 {
			odd := (uint32(x)>>i ^ r) & 1
			r >>= 1
			if odd == 1 {
				r ^= 0xedb88320
			}
		}
	}
	return ^r
}

// P2.1, P2.2: every byte behind every kind of register, and long texts in any parts.
func TestCrcBitByBit(t *testing.T) {
	d := dice(1)
	for x := range 256 {
		one := []byte{byte(x)}
		want(t, "one byte", sums.Crc(one), bitwise(1<<32-1, one))
		for i := range 32 {
			c := uint32(1) << i
			want(t, "one byte behind a bit", sums.More(c, one), bitwise(^c, one))
		}
	}
	for n := range 300 {
		b := d.text(n)
		wanted := bitwise(1<<32-1, b)
		want(t, "whole", sums.Crc(b), wanted)
		want(t, "in parts", sums.Crc(d.cut(b)...), wanted)
		c := uint32(d.below(1<<31)) * 2
		want(t, "behind any sum", sums.More(c, b), bitwise(^c, b))
	}
}

// flipped is b with bits of a pattern turned, from bit at on, in the order in which the short sum takes them.
func flipped(b []byte, at int, pattern uint64) []byte {
	b = slices.Clone(b)
	for i := range 32 {
		if pattern>>i&1 == 1 {
			b[(at+i)/8] ^= 1 << ((at + i) % 8)
		}
	}
	return b
}

// P2.3: what is spoilt within 32 bits is told.
func TestCrcTellsShortSpoils(t *testing.T) {
	d := dice(2)
	b := d.text(40)
	own := sums.Crc(b)
	for at := range 8*len(b) - 32 + 1 {
		patterns := []uint64{1, 3, 1<<31 | 1, 1<<32 - 1, 0xedb88320, 0xdb710641}
		for range 60 {
			patterns = append(patterns, uint64(d.below(1<<31))|1<<d.below(32))
		}
		for _, p := range patterns {
			if sums.Crc(flipped(b, at, p)) == own {
				t.Fatalf("bits %x from %d on are not told", p, at)
			}
		}
	}
	seen := map[uint32]int{}
	for x := range 1 << 16 {
		seen[sums.Crc(b[:7], []byte{byte(x), byte(x >> 8)}, b[9:])] = x
	}
	want(t, "sums of texts that are unlike in two bytes", len(seen), 1<<16)
}

// P2.3: three texts of one length.
func TestCrcOfThreeTexts(t *testing.T) {
	d := dice(3)
	for n := range 200 {
		a, b, c := d.text(n), d.text(n), d.text(n)
		x := make([]byte, n)
		for i := range x {
			x[i] = a[i] ^ b[i] ^ c[i]
		}
		want(t, "the three xor", sums.Crc(x), sums.Crc(a)^sums.Crc(b)^sums.Crc(c))
	}
}

// place is the first 32 binary places behind the point of the root of n: the square root for 2, the cube root for 3.
func place(n, root int64) uint32 {
	lifted := new(big.Int).Lsh(big.NewInt(n), uint(32*root))
	got := new(big.Int)
	for i := 40; i >= 0; i-- {
		try := new(big.Int).SetBit(got, i, 1)
		if new(big.Int).Exp(try, big.NewInt(root), nil).Cmp(lifted) <= 0 {
			got = try
		}
	}
	return uint32(got.Uint64())
}

func primes(n int) []int64 {
	var l []int64
	for x := int64(2); len(l) < n; x++ {
		if !slices.ContainsFunc(l, func(p int64) bool { return x%p == 0 }) {
			l = append(l, x)
		}
	}
	return l
}

func right(w uint32, n int) uint32 { return w>>n | w<<(32-n) }

// longSum is the long sum as the document reckons it, its constants made of the primes.
func longSum(b []byte) api.Sum {
	n := uint64(len(b))
	b = append(slices.Clone(b), 0x80)
	for len(b)%64 != 56 {
		b = append(b, 0)
	}
	for i := range 8 {
		b = append(b, byte(8*n>>(56-8*i)))
	}
	var k, w [64]uint32
	var s, v [8]uint32
	for i, p := range primes(64) {
		k[i] = place(p, 3)
		if i < 8 {
			s[i] = place(p, 2)
		}
	}
	for ; len(b) > 0; b = b[64:] {
		for t := range 64 {
			if t < 16 {
				w[t] = uint32(b[4*t])<<24 + uint32(b[4*t+1])<<16 + uint32(b[4*t+2])<<8 + uint32(b[4*t+3])
				continue
			}
			s0 := right(w[t-15], 7) ^ right(w[t-15], 18) ^ w[t-15]>>3
			s1 := right(w[t-2], 17) ^ right(w[t-2], 19) ^ w[t-2]>>10
			w[t] = w[t-16] + s0 + w[t-7] + s1
		}
		v = s
		for t := range 64 {
			x := v[7] + (right(v[4], 6) ^ right(v[4], 11) ^ right(v[4], 25)) + (v[4]&v[5] ^ ^v[4]&v[6]) + k[t] + w[t]
			y := (right(v[0], 2) ^ right(v[0], 13) ^ right(v[0], 22)) + (v[0]&v[1] ^ v[0]&v[2] ^ v[1]&v[2])
			copy(v[1:], slices.Clone(v[:7]))
			v[4] += x
			v[0] = x + y
		}
		for i := range s {
			s[i] += v[i]
		}
	}
	var sum api.Sum
	for i := range sum {
		sum[i] = byte(s[i/4] >> (24 - 8*(i%4)))
	}
	return sum
}

// Example 4, for the model that the next test holds Of against.
func TestConstantsOfThePrimes(t *testing.T) {
	want(t, "H0", place(2, 2), 0x6a09e667)
	want(t, "H7", place(19, 2), 0x5be0cd19)
	want(t, "K0", place(2, 3), 0x428a2f98)
	want(t, "K63", place(primes(64)[63], 3), 0xc67178f2)
}

// P2.4: every length around the edges of blocks.
func TestOfEveryLength(t *testing.T) {
	d := dice(4)
	for n := range 330 {
		b := d.text(n)
		want(t, "as the document reckons", sums.Of(b), longSum(b))
		want(t, "as SHA-256", sums.Of(b), api.Sum(sha256.Sum256(b)))
	}
}

// P2.4: the number of bits of a text may need more than 32 bits.
func TestOfALongText(t *testing.T) {
	if testing.Short() {
		t.Skip("takes seconds")
	}
	part := rolled(5, 1<<20)
	h, other := sums.New(), sha256.New()
	for range 513 {
		h.Write(part)
		other.Write(part)
	}
	want(t, "Size", h.Size(), 513<<20)
	want(t, "Sum", h.Sum(), api.Sum(other.Sum(nil)))
}

// P2.5, P2.6: any pieces, with any looks and forks between.
func TestLongSumOfAnyPieces(t *testing.T) {
	d := dice(6)
	for n := range 400 {
		b := d.text(n)
		wanted := api.Sum(sha256.Sum256(b))
		parts := d.cut(b)
		want(t, "Of the parts", sums.Of(parts...), wanted)
		h := sums.New()
		taken := 0
		for _, p := range parts {
			h.Write(p)
			taken += len(p)
			switch d.below(4) {
			case 0:
				want(t, "Sum on the way", h.Sum(), api.Sum(sha256.Sum256(b[:taken])))
			case 1:
				want(t, "Size on the way", h.Size(), uint64(taken))
			case 2:
				h.Fork().Write(d.text(d.below(130)))
			case 3:
				kept := h
				h = h.Fork()
				kept.Write(d.text(d.below(130)))
			}
		}
		want(t, "Sum", h.Sum(), wanted)
		want(t, "Size", h.Size(), uint64(n))
	}
}

// P2.6: every cut of a text into two.
func TestLongSumOfEveryCut(t *testing.T) {
	b := rolled(7, 200)
	wanted := api.Sum(sha256.Sum256(b))
	for i := range len(b) + 1 {
		h := sums.New()
		h.Write(b[:i])
		h.Sum()
		h.Write(b[i:])
		want(t, "a Hash", h.Sum(), wanted)
		want(t, "Of", sums.Of(b[:i], b[i:]), wanted)
	}
}

// P2.7: every length of a key.
func TestMacOfEveryKey(t *testing.T) {
	d := dice(8)
	for n := range 200 {
		key, b := d.text(n), d.text(d.below(200))
		m := hmac.New(sha256.New, key)
		m.Write(b)
		wanted := api.Sum(m.Sum(nil))
		want(t, "whole", sums.Mac(key, b), wanted)
		want(t, "in parts", sums.Mac(key, d.cut(b)...), wanted)
	}
}

// P2.9, 0.4: neither what is handed in nor its spare room is changed, and nothing of it is kept.
func TestHandedInIsLeftAlone(t *testing.T) {
	for _, n := range []int{0, 1, 55, 56, 63, 64, 65, 130} {
		room := rolled(n, n+200)
		before := slices.Clone(room)
		b := room[:n]
		parts := [][]byte{b, nil, b[:n/2]}
		h := sums.New()
		h.Write(b)
		sums.Crc(parts...)
		sums.More(5, b)
		sums.Of(parts...)
		sums.Mac(b, parts...)
		h.Sum()
		h.Fork().Sum()
		want(t, "bytes handed in are as they were", bytes.Equal(room, before), true)
		want(t, "parts are as they were", len(parts[0]) == n && parts[1] == nil && len(parts[2]) == n/2, true)
		clear(room)
		want(t, "Sum behind a change of what was handed in", h.Sum(), sums.Of(before[:n]))
	}
}

// P2.9: each goroutine has its own Hash.
func TestFromSeveralGoroutines(t *testing.T) {
	b := rolled(9, 500)
	crc, sum, mac, token, first := sums.Crc(b), sums.Of(b), sums.Mac(b, b), sums.Token(7), sums.First(7)
	shared := sums.New()
	shared.Write(b[:100])
	var wait sync.WaitGroup
	for range 8 {
		h := shared.Fork()
		wait.Go(func() {
			for range 100 {
				g := h.Fork()
				g.Write(b[100:])
				want(t, "Sum", g.Sum(), sum)
				want(t, "Crc", sums.Crc(b), crc)
				want(t, "Mac", sums.Mac(b, b), mac)
				want(t, "Token", sums.Token(7), token)
				want(t, "First", sums.First(7), first)
			}
		})
	}
	wait.Wait()
	want(t, "the Hash that all were forked of", shared.Sum(), sums.Of(b[:100]))
}
